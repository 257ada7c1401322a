import Derived.Test.YtlhnlcbcikbokaaGreatDoorIfK2
set_option linter.unusedVariables false
set_option linter.unusedSimpArgs false
set_option linter.unusedSectionVars false
set_option maxRecDepth 100000
namespace Go.Proofs.YtlhnlcbcikbokaaGreatDoor
open Go.Lift
abbrev Fun:=List Int×Int×Int×List K.Fld×List Ins×List T.Rn×List T.Rn×Unit
abbrev Img:=List K.Typ×List (List Int)×List Fun×Unit
theorem lt_t {i n:Nat} (h:i < n):decide ((i:Int) < (n:Int))=true:=decide_eq_true (by omega)
theorem lt_f {n:Nat}:decide ((n:Int) < (n:Int))=false:=by simp
theorem gI {α:Type} {l:List α} {i:Nat} (h:i < l.length):getI l (i:Int)=some l[i]:=by
 unfold getI
 simp [h,T.tnth]
theorem wS {i n:Nat} (h:i < n) (hn:n≤1000000000):IntKind.i64.wrap ((i:Int)+1)=((i+1:Nat):Int):=by
 rw [T.t64 (by omega) (by omega)];rfl
theorem bbig {n:Nat} (h:n≤1000000000):n < big:=big_lt (by rw [maxLen_eq];omega)
theorem loop_all {V β:Type} {g:(V→Option β)→V→Option β} {mk:Nat→V} {p:Nat→Bool} {no kk:Option β} {n:Nat} (hs:∀ self i,i < n→g self (mk i)=bif p i then self (mk (i+1)) else no) (he:∀ self,g self (mk n)=kk) :
  ∀ (k i M:Nat),i+k=n→k < M→iterV g M (mk i)=bif (List.range' i k).all p then kk else no
 | k,i,0,_,h=>by omega
 | 0,i,M+1,hi,_=>by
  rw [iterV_succ,show i=n by omega,he]
  rfl
 | k+1,i,M+1,hi,hM=>by
  rw [iterV_succ,hs _ i (by omega),List.range'_succ,List.all_cons]
  cases p i with
  | false=>rfl
  | true=>
   rw [cond_true,Bool.true_and]
   exact loop_all hs he k (i+1) M (by omega) (by omega)
theorem lall {α:Type} (l:List α) (q:α→Bool):(List.range' 0 l.length).all (fun i=>(l[i]?).all q)=l.all q:=by
 rw [Bool.eq_iff_iff]
 simp only [List.all_eq_true,List.mem_range'_1]
 constructor
 ·intro h x hx
  obtain ⟨i,hi,rfl⟩:=List.mem_iff_getElem.1 hx
  have:=h i ⟨by omega,by omega⟩
  simpa [hi] using this
 ·intro h i hi
  have:i < l.length:=by omega
  simp [this,h _ (List.getElem_mem this)]
theorem pat {α:Type} {l:List α} {q:α→Bool} {i:Nat} (h:i < l.length):(l[i]?).all q=q l[i]:=by simp [h]
def markM (ns:List (List Int)):List (List Int×Bool):=ns.foldl (fun m s=>@putK .str .bool s true m) []
theorem markM_snoc (ns:List (List Int)) (s:List Int):markM (ns++[s])=@putK .str .bool s true (markM ns):=by simp [markM]
theorem marks_take (ns:List (List Int)):∀ i,i≤ns.length→K.Marks .str (markM (ns.take i)) (fun s=>s∈ns.take i)
 | 0,_=>by
  intro x
  simp [markM,K.Marks.nil x]
 | i+1,hi=>by
  have ih:=marks_take ns i (by omega)
  rw [List.take_succ_eq_append_getElem (by omega),markM_snoc]
  intro x
  rw [ih.put ns[i] x]
  show (x=ns[i]∨x∈ns.take i)↔x∈ns.take i++[ns[i]]
  rw [List.mem_append,List.mem_singleton,or_comm]
def namesB (ns:List (List Int)):Bool:=ns.all K.namedB&&decide ns.Nodup
theorem nodup_take (ns:List (List Int)):ns.Nodup↔∀ i (h:i < ns.length),ns[i] ∉ ns.take i:=by
 unfold List.Nodup
 rw [List.pairwise_iff_getElem]
 constructor
 ·intro h i hi hm
  obtain ⟨j,hj,e⟩:=List.mem_take_iff_getElem.1 hm
  exact h j i (by omega) hi (by omega) e
 ·intro h i j hi hj hij e
  exact h j hj (List.mem_take_iff_getElem.2 ⟨i,by omega,e⟩)
def pN (ns:List (List Int)) (i:Nat):Bool:=(ns[i]?).all fun s=>K.namedB s&&!(@atK .str .bool s false (markM (ns.take i))).1
theorem names_all (ns:List (List Int)):(List.range' 0 ns.length).all (pN ns)=namesB ns:=by
 rw [Bool.eq_iff_iff]
 simp only [List.all_eq_true,List.mem_range'_1,namesB,Bool.and_eq_true,decide_eq_true_eq,nodup_take]
 have key:∀ i (h:i < ns.length),pN ns i=true↔K.namedB ns[i]=true∧ns[i] ∉ ns.take i:=by
  intro i h
  unfold pN
  rw [pat h,Bool.and_eq_true,Bool.not_eq_true',← Bool.not_eq_true,marks_take ns i (by omega) ns[i]]
 constructor
 ·intro h
  refine ⟨fun s hs=>?_,fun i hi=>((key i hi).1 (h i ⟨by omega,by omega⟩)).2⟩
  obtain ⟨i,hi,rfl⟩:=List.mem_iff_getElem.1 hs
  exact ((key i hi).1 (h i ⟨by omega,by omega⟩)).1
 ·intro h i hi
  have hi':i < ns.length:=by omega
  exact (key i hi').2 ⟨h.1 _ (List.getElem_mem hi'),h.2 i hi'⟩
def okTypes (l:List K.Typ):Bool:=decide (K.Valid l)&&(List.range' 0 l.length).all fun i=>decide (K.sz (K.exS l) (i:Nat)≤256)
def okTexts (l:List (List Int)):Bool:=decide (l.length≤32)&&l.all fun s=>decide (s.length≤64)
def slotsB (n:Int) (fs:List K.Fld):Bool:=decide (fs.length≤16)&&((fs.all fun f=>K.idxB f.2.1 n)&&namesB (fs.map (·.1)))
def codeB (l:List Ins):Bool:=decide (1≤l.length)&&(decide (l.length≤200)&&l.all okI)
def okF (n:Int) (f:Fun):Bool:=slotsB n f.2.2.2.1&&(decide (0≤f.2.1)&&(decide (f.2.1≤f.2.2.2.1.length)&&((decide (f.2.2.1 = -1)||K.idxB f.2.2.1 n)&&(codeB f.2.2.2.2.1&&(decide (T.checkR f.2.2.2.2.2.1 f.2.2.2.2.1.length=0)&&decide (T.checkR f.2.2.2.2.2.2.1 f.2.2.2.2.1.length=0))))))
def okFuncs (l:List Fun) (n:Int):Bool:=decide (1≤l.length)&&(decide (l.length≤32)&&(l.all (okF n)&&namesB (l.map (·.1))))
def okImg (m:Img):Bool:=okTypes m.1&&(okTexts m.2.1&&okFuncs m.2.2.1 m.1.length)
theorem valid_nil:K.Valid []:=by
 refine ⟨by simp,fun i h=>by simp at h,?_⟩
 simp [K.wN,K.wGo]
theorem types_all (l:List K.Typ):(List.range' 0 l.length).all (fun i=>decide (K.errS l (i:Nat)=0))=okTypes l:=by
 rw [Bool.eq_iff_iff]
 simp only [okTypes,List.all_eq_true,List.mem_range'_1,Bool.and_eq_true,decide_eq_true_eq]
 constructor
 ·intro h
  refine ⟨?_,fun i hi=>(K.errS_ok (h i hi)).2.2.2⟩
  cases l with
  | nil=>exact valid_nil
  | cons t r=>exact (K.errS_ok (h 0 ⟨by omega,by simp⟩)).1
 ·intro h i hi
  exact K.errS_zero h.1 (by omega) (by omega) (h.2 i hi)
theorem areTypes_eq (l:List K.Typ) (hl:l.length≤1000000):cimage_areTypes l=some (okTypes l):=by
 show nimage_areTypes (iterV (gimage_areTypes_0 big) big) l=_
 unfold nimage_areTypes
 have:=loop_all (g:=gimage_areTypes_0 big) (mk:=fun i=>(l,(l.length:Int),(i:Int))) (p:=fun i=>decide (K.errS l (i:Nat)=0)) (no:=some false) (kk:=some true) (n:=l.length)
  (fun self i hi=>by
   simp only [gimage_areTypes_0,himage_areTypes_0,lt_t hi,cond_true,K.Size_eq,Option.bind_some,wS hi (by omega)]
   by_cases h:K.errS l (i:Nat)=0
   ·simp [h]
   ·have e:(K.errS l (i:Nat) != (0:Int))=true:=by simp [h]
    rw [if_neg h,decide_eq_false h]
    exact (congrArg (fun b=>bif b then some false else self (l,↑l.length,((i+1:Nat):Int))) e).trans rfl)
  (fun self=>by simp only [gimage_areTypes_0,himage_areTypes_0,lt_f,cond_false]) l.length 0 big (by omega) (bbig (by omega))
 rw [types_all] at this
 rw [show ((0:Nat):Int)=0 from rfl] at this
 rw [this]
 cases okTypes l <;> rfl
theorem areTexts_eq (l:List (List Int)):cimage_areTexts l=some (okTexts l):=by
 show nimage_areTexts (iterV (gimage_areTexts_0 big) big) l=_
 unfold nimage_areTexts okTexts
 by_cases h:l.length≤32
 ·rw [decide_eq_false (by omega),cond_false,decide_eq_true h,Bool.true_and]
  have:=loop_all (g:=gimage_areTexts_0 big) (mk:=fun i=>(l,(l.length:Int),(i:Int))) (p:=fun i=>(l[i]?).all fun s=>decide (s.length≤64)) (no:=some false) (kk:=some true) (n:=l.length)
   (fun self i hi=>by
    rw [pat hi]
    simp only [gimage_areTexts_0,himage_areTexts_0,lt_t hi,cond_true,gI hi,Option.bind_some,wS hi (by omega)]
    by_cases h:l[i].length≤64
    ·rw [decide_eq_false (by omega),decide_eq_true h];rfl
    ·rw [decide_eq_true (by omega),decide_eq_false h];rfl)
   (fun self=>by simp only [gimage_areTexts_0,himage_areTexts_0,lt_f,cond_false]) l.length 0 big (by omega) (bbig (by omega))
  rw [lall] at this
  rw [show ((0:Nat):Int)=0 from rfl] at this
  rw [this]
  cases l.all fun s=>decide (s.length≤64) <;> rfl
 ·rw [decide_eq_true (by omega),cond_true,decide_eq_false h];rfl
theorem imgIndex_eq (x n:Int):cimage_isIndex (x,n)=some (K.idxB x n):=by
 show nimage_isIndex (x,n)=_
 unfold nimage_isIndex K.idxB
 dsimp only
 by_cases h:0≤x
 ·rw [decide_eq_true (show x≥0 from h),cond_true];rfl
 ·rw [decide_eq_false (show ¬ x≥0 from h),cond_false];rfl
theorem slotNames (fs:List K.Fld) (hl:fs.length≤1000) (self0):iterV (gimage_areSlots_1 big self0) big (fs,(fs.length:Int),(0:Int),([]:List (List Int×Bool)))=some (namesB (fs.map (·.1))):=by
 have hm:(fs.map (·.1)).length=fs.length:=List.length_map _
 have:=loop_all (g:=gimage_areSlots_1 big self0) (mk:=fun i=>(fs,(fs.length:Int),(i:Int),markM ((fs.map (·.1)).take i))) (p:=pN (fs.map (·.1))) (no:=some false) (kk:=some true) (n:=fs.length)
  (fun self i hi=>by
   have hi':i < (fs.map (·.1)).length:=by omega
   unfold pN
   rw [pat hi']
   simp only [gimage_areSlots_1,himage_areSlots_1,lt_t hi,cond_true,gI hi,Option.bind_some,wS hi (by omega),show cimage_areSlots_1 fs[i]=some fs[i].1 from rfl,K.Named_eq,List.getElem_map]
   cases h1:K.namedB fs[i].1 with
   | false=>rfl
   | true=>
    cases h2:(@atK .str .bool fs[i].1 false (markM ((fs.map (·.1)).take i))).1 with
    | true=>rfl
    | false=>
     rw [List.take_succ_eq_append_getElem hi',markM_snoc]
     simp only [List.getElem_map]
     rfl)
  (fun self=>by simp only [gimage_areSlots_1,himage_areSlots_1,lt_f,cond_false]) fs.length 0 big (by omega) (bbig (by omega))
 rw [← hm,names_all,hm] at this
 refine Eq.trans this ?_
 cases namesB (fs.map (·.1)) <;> rfl
theorem areSlots_eq (fs:List K.Fld) (n:Int):cimage_areSlots (fs,n)=some (slotsB n fs):=by
 show nimage_areSlots (iterV (gimage_areSlots_0 big) big) (fs,n)=_
 unfold nimage_areSlots slotsB
 dsimp only
 by_cases h:fs.length≤16
 ·rw [decide_eq_false (by omega),cond_false,decide_eq_true h,Bool.true_and]
  have:=loop_all (g:=gimage_areSlots_0 big) (mk:=fun i=>(fs,n,fs,(fs.length:Int),(i:Int))) (p:=fun i=>(fs[i]?).all fun f=>K.idxB f.2.1 n) (no:=some false) (kk:=some (namesB (fs.map (·.1)))) (n:=fs.length)
   (fun self i hi=>by
    rw [pat hi]
    simp only [gimage_areSlots_0,himage_areSlots_0,lt_t hi,cond_true,gI hi,Option.bind_some,wS hi (by omega),imgIndex_eq]
    cases K.idxB fs[i].2.1 n <;> rfl)
   (fun self=>by
    simp only [gimage_areSlots_0,himage_areSlots_0,lt_f,cond_false]
    exact slotNames fs (by omega) self) fs.length 0 big (by omega) (bbig (by omega))
  rw [lall] at this
  refine Eq.trans this ?_
  cases (fs.all fun f=>K.idxB f.2.1 n) <;> rfl
 ·rw [decide_eq_true (by omega),cond_true,decide_eq_false h];rfl
theorem isCode_eq (l:List Ins):cimage_isCode l=some (codeB l):=by
 show nimage_isCode (iterV (gimage_isCode_0 big) big) l=_
 unfold nimage_isCode codeB
 by_cases h1:1≤l.length
 ·by_cases h:l.length≤200
  ·rw [decide_eq_false (by omega),decide_eq_false (by omega),cond_false,cond_false,decide_eq_true h,decide_eq_true h1,Bool.true_and,Bool.true_and]
   have:=loop_all (g:=gimage_isCode_0 big) (mk:=fun i=>(l,(l.length:Int),(i:Int))) (p:=fun i=>(l[i]?).all okI) (no:=some false) (kk:=some true) (n:=l.length)
    (fun self i hi=>by
     rw [pat hi]
     simp only [gimage_isCode_0,himage_isCode_0,lt_t hi,cond_true,gI hi,Option.bind_some,wS hi (by omega),Check_eq]
     cases okI l[i] <;> rfl)
    (fun self=>by simp only [gimage_isCode_0,himage_isCode_0,lt_f,cond_false]) l.length 0 big (by omega) (bbig (by omega))
   rw [lall] at this
   refine Eq.trans this ?_
   cases l.all okI <;> rfl
  ·rw [decide_eq_false (by omega),decide_eq_true (by omega),decide_eq_true h1,decide_eq_false h];rfl
 ·rw [decide_eq_true (by omega),decide_eq_false h1];rfl
theorem isFunc_eq (f:Fun) (n:Int) (h1:f.2.2.2.2.2.1.length≤1000000) (h2:f.2.2.2.2.2.2.1.length≤1000000):cimage_isFunc (f,n)=some (okF n f):=by
 show nimage_isFunc (f,n)=_
 unfold nimage_isFunc okF
 simp only [areSlots_eq,isCode_eq,imgIndex_eq,Option.bind_some,T.pCheck_eq _ _ (show f.2.2.2.2.2.1.length≤9223372036854775807 by omega),T.pCheck_eq _ _ (show f.2.2.2.2.2.2.1.length≤9223372036854775807 by omega)]
 cases slotsB n f.2.2.2.1 with
 | false=>rfl
 | true=>
  simp only [Bool.not_true,cond_false,Bool.true_and]
  by_cases a1:0≤f.2.1
  ·rw [decide_eq_false (show ¬ f.2.1 < 0 by omega),cond_false,decide_eq_true a1,Bool.true_and]
   by_cases a2:f.2.1≤f.2.2.2.1.length
   ·rw [decide_eq_false (show ¬ f.2.1 > f.2.2.2.1.length by omega),cond_false,decide_eq_true a2,Bool.true_and]
    have key:∀ b:Bool,(bif codeB f.2.2.2.2.1 then (bif T.checkR f.2.2.2.2.2.1 f.2.2.2.2.1.length==0 then some (T.checkR f.2.2.2.2.2.2.1 f.2.2.2.2.1.length==0) else some false) else some false)=some (codeB f.2.2.2.2.1&&(decide (T.checkR f.2.2.2.2.2.1 f.2.2.2.2.1.length=0)&&decide (T.checkR f.2.2.2.2.2.2.1 f.2.2.2.2.1.length=0))):=by
     intro _
     cases codeB f.2.2.2.2.1 with
     | false=>rfl
     | true=>rw [K.beq_dec,K.beq_dec];by_cases c1:T.checkR f.2.2.2.2.2.1 f.2.2.2.2.1.length=0 <;> simp [c1]
    by_cases a3:f.2.2.1 = -1
    ·rw [show (f.2.2.1 != -1)=false by simp [a3],cond_false,decide_eq_true a3,Bool.true_or,Bool.true_and]
     exact key true
    ·rw [show (f.2.2.1 != -1)=true by simp [a3],cond_true,decide_eq_false a3,Bool.false_or]
     cases K.idxB f.2.2.1 n with
     | false=>rfl
     | true=>exact key true
   ·rw [decide_eq_true (show f.2.1 > f.2.2.2.1.length by omega),decide_eq_false a2];rfl
  ·rw [decide_eq_true (show f.2.1 < 0 by omega),decide_eq_false a1];rfl
theorem funcNames (l:List Fun) (hl:l.length≤1000) (self0):iterV (gimage_areFuncs_1 big self0) big (l,(l.length:Int),(0:Int),([]:List (List Int×Bool)))=some (namesB (l.map (·.1))):=by
 have hm:(l.map (·.1)).length=l.length:=List.length_map _
 have:=loop_all (g:=gimage_areFuncs_1 big self0) (mk:=fun i=>(l,(l.length:Int),(i:Int),markM ((l.map (·.1)).take i))) (p:=pN (l.map (·.1))) (no:=some false) (kk:=some true) (n:=l.length)
  (fun self i hi=>by
   have hi':i < (l.map (·.1)).length:=by omega
   unfold pN
   rw [pat hi']
   simp only [gimage_areFuncs_1,himage_areFuncs_1,lt_t hi,cond_true,gI hi,Option.bind_some,wS hi (by omega),show cimage_areFuncs_1 l[i]=some l[i].1 from rfl,K.Named_eq,List.getElem_map]
   cases h1:K.namedB l[i].1 with
   | false=>rfl
   | true=>
    cases h2:(@atK .str .bool l[i].1 false (markM ((l.map (·.1)).take i))).1 with
    | true=>rfl
    | false=>
     rw [List.take_succ_eq_append_getElem hi',markM_snoc]
     simp only [List.getElem_map]
     rfl)
  (fun self=>by simp only [gimage_areFuncs_1,himage_areFuncs_1,lt_f,cond_false]) l.length 0 big (by omega) (bbig (by omega))
 rw [← hm,names_all,hm] at this
 refine Eq.trans this ?_
 cases namesB (l.map (·.1)) <;> rfl
theorem areFuncs_eq (l:List Fun) (n:Int) (hf:∀ f∈l,f.2.2.2.2.2.1.length≤1000000∧f.2.2.2.2.2.2.1.length≤1000000):cimage_areFuncs (l,n)=some (okFuncs l n):=by
 show nimage_areFuncs (iterV (gimage_areFuncs_0 big) big) (l,n)=_
 unfold nimage_areFuncs okFuncs
 dsimp only
 by_cases h1:1≤l.length
 ·by_cases h:l.length≤32
  ·rw [decide_eq_false (by omega),decide_eq_false (by omega),cond_false,cond_false,decide_eq_true h,decide_eq_true h1,Bool.true_and,Bool.true_and]
   have:=loop_all (g:=gimage_areFuncs_0 big) (mk:=fun i=>(l,n,l,(l.length:Int),(i:Int))) (p:=fun i=>(l[i]?).all (okF n)) (no:=some false) (kk:=some (namesB (l.map (·.1)))) (n:=l.length)
    (fun self i hi=>by
     rw [pat hi]
     simp only [gimage_areFuncs_0,himage_areFuncs_0,lt_t hi,cond_true,gI hi,Option.bind_some,wS hi (by omega),isFunc_eq l[i] n (hf _ (List.getElem_mem hi)).1 (hf _ (List.getElem_mem hi)).2]
     cases okF n l[i] <;> rfl)
    (fun self=>by
     simp only [gimage_areFuncs_0,himage_areFuncs_0,lt_f,cond_false]
     exact funcNames l (by omega) self) l.length 0 big (by omega) (bbig (by omega))
   rw [lall] at this
   refine Eq.trans this ?_
   cases l.all (okF n) <;> rfl
  ·rw [decide_eq_false (by omega),decide_eq_true (by omega),decide_eq_true h1,decide_eq_false h];rfl
 ·rw [decide_eq_true (by omega),decide_eq_false h1];rfl
theorem isValid_eq (m:Img) (ht:m.1.length≤1000000) (hf:∀ f∈m.2.2.1,f.2.2.2.2.2.1.length≤1000000∧f.2.2.2.2.2.2.1.length≤1000000):cimage_isValid m=some (okImg m):=by
 show nimage_isValid m=_
 unfold nimage_isValid okImg
 rw [areTypes_eq _ ht,areTexts_eq,areFuncs_eq _ _ hf]
 cases okTypes m.1 <;> cases okTexts m.2.1 <;> rfl
def said (s:List Int):List Int:=vary s.length++s
def codeFl (f:K.Fld):List Int:=said f.1++vary f.2.1.toNat
def codeFs (fs:List K.Fld):List Int:=vary fs.length++fs.flatMap codeFl
def tailT (t:K.Typ):List Int:=if t.1=4∨t.1=7 then vary t.2.1.toNat else if t.1=6 then vary t.2.1.toNat++vary t.2.2.1.toNat else if t.1=5 then codeFs t.2.2.2.1 else []
def codeT (t:K.Typ):List Int:=t.1::tailT t
def codeFn (f:Fun):List Int:=said f.1++(vary f.2.1.toNat++(vary (dbl f.2.2.1)++(codeFs f.2.2.2.1++(vary f.2.2.2.2.1.length++(f.2.2.2.2.1.flatMap enc++(T.codedR f.2.2.2.2.2.1++T.codedR f.2.2.2.2.2.2.1))))))
def codeI (m:Img):List Int:=vary m.1.length++(m.1.flatMap codeT++(vary m.2.1.length++(m.2.1.flatMap said++(vary m.2.2.1.length++m.2.2.1.flatMap codeFn))))
def P63 (n:Int):Prop:=0≤n∧n≤9223372036854775807
def FldW (f:K.Fld):Prop:=f.1.length≤200000∧P63 f.2.1
def TypW (t:K.Typ):Prop:=P63 t.2.1∧P63 t.2.2.1∧t.2.2.2.1.length≤1000000∧∀ f∈t.2.2.2.1,FldW f
structure FunW (f:Fun):Prop where
 name:f.1.length≤200000
 par:P63 f.2.1
 res:I64 f.2.2.1
 sl:f.2.2.2.1.length≤1000000∧∀ x∈f.2.2.2.1,FldW x
 code:f.2.2.2.2.1.length≤1000000∧∀ x∈f.2.2.2.2.1,okI x=true∧WfI x
 s1:f.2.2.2.2.2.1.length≤1000000∧T.V64 f.2.2.2.2.2.1∧T.checkR f.2.2.2.2.2.1 f.2.2.2.2.1.length=0
 s2:f.2.2.2.2.2.2.1.length≤1000000∧T.V64 f.2.2.2.2.2.2.1∧T.checkR f.2.2.2.2.2.2.1 f.2.2.2.2.1.length=0
structure ImgW (m:Img):Prop where
 ty:m.1.length≤1000000∧∀ t∈m.1,TypW t
 tx:m.2.1.length≤1000000∧∀ s∈m.2.1,s.length≤200000
 fn:m.2.2.1.length≤1000000∧∀ f∈m.2.2.1,FunW f
abbrev L36:Nat:=68719476736
theorem app_ok {a b:List Int} (h:a.length+b.length≤L36):(Nat.ble 1 1&&Nat.ble (List.length a+List.length b) lim)=true:=by
 rw [b11,ble_lim h];rfl
theorem loop_app {V α β:Type} {g:(V→Option β)→V→Option β} {mk:Nat→List Int→V} {l:List α} {cod:α→List Int} {kk:List Int→Option β} {B:Nat}
  (hs:∀ self i x (h:i < l.length),x.length+(cod l[i]).length≤B→g self (mk i x)=self (mk (i+1) (x++cod l[i]))) (he:∀ self x,x.length≤B→g self (mk l.length x)=kk x) :
  ∀ (k i M:Nat) (x:List Int),i+k=l.length→k < M→x.length+((l.drop i).flatMap cod).length≤B→iterV g M (mk i x)=kk (x++(l.drop i).flatMap cod)
 | k,i,0,_,_,h,_=>by omega
 | 0,i,M+1,x,hi,_,hx=>by
  rw [iterV_succ,show i=l.length by omega,he _ _ (by omega)]
  simp
 | k+1,i,M+1,x,hi,hM,hx=>by
  have hi':i < l.length:=by omega
  rw [List.drop_eq_getElem_cons hi',List.flatMap_cons] at hx ⊢
  rw [List.length_append] at hx
  rw [iterV_succ,hs _ i x hi' (by omega),loop_app hs he k (i+1) M _ (by omega) (by omega) (by rw [List.length_append];omega),List.append_assoc]
theorem appNumber_eq (x:List Int) (n:Int) (h:P63 n) (hx:x.length+(vary n.toNat).length≤L36):cimage_appendNumber x (n,())=some (x++vary n.toNat):=by
 show nimage_appendNumber x (n,())=_
 unfold nimage_appendNumber
 obtain ⟨h0,h1⟩:=h
 obtain ⟨k,rfl⟩:=Int.eq_ofNat_of_zero_le h0
 have e:IntKind.u64.wrap (k:Int)=(k:Int):=wrap_id ⟨by rw [min_u64];omega,by rw [max_u64];omega⟩
 simp only [e,vary_eq k (by omega),Option.bind_some,Int.toNat_natCast] at hx ⊢
 rw [app_ok hx,cond_true];rfl
theorem appLen_eq {α:Type} (x:List Int) (l:List α) (hl:l.length≤1000000) (hx:x.length+(vary l.length).length≤L36):cimage_appendNumber x ((l.length:Int),())=some (x++vary l.length):=by
 have:=appNumber_eq x (l.length:Int) ⟨by omega,by omega⟩ (by simpa using hx)
 simpa using this
theorem appText_eq (x s:List Int) (h:s.length≤200000) (hx:x.length+(said s).length≤L36):cimage_appendText x (s,())=some (x++said s):=by
 show nimage_appendText x (s,())=_
 unfold nimage_appendText
 unfold said at hx ⊢
 simp only [text_eq,if_neg (show ¬ s.length > 200000 by omega),Option.bind_some]
 rw [app_ok hx,cond_true];rfl
theorem appField_eq (x:List Int) (f:K.Fld) (h:FldW f) (hx:x.length+(codeFl f).length≤L36):cimage_appendField x (f,())=some (x++codeFl f):=by
 show nimage_appendField x (f,())=_
 unfold nimage_appendField codeFl at *
 rw [List.length_append] at hx
 dsimp only
 rw [appText_eq x f.1 h.1 (by omega),Option.bind_some,appNumber_eq _ _ h.2 (by rw [List.length_append];omega),Option.bind_some,List.append_assoc]
theorem typFields (fs:List K.Fld) (x:List Int) (hl:fs.length≤1000000) (hf:∀ f∈fs,FldW f) (hx:x.length+(fs.flatMap codeFl).length≤L36) :
  iterV (gimage_appendType_0 big) big (fs,(fs.length:Int),(0:Int),x)=some (x++fs.flatMap codeFl):=by
 exact loop_app (g:=gimage_appendType_0 big) (mk:=fun i x=>(fs,(fs.length:Int),(i:Int),x)) (l:=fs) (cod:=codeFl) (kk:=some) (B:=L36)
  (fun self i x hi hx=>by
   simp only [gimage_appendType_0,himage_appendType_0,lt_t hi,cond_true,gI hi,Option.bind_some,wS hi (by omega),appField_eq x fs[i] (hf _ (List.getElem_mem hi)) hx])
  (fun self x hx=>by simp only [gimage_appendType_0,himage_appendType_0,lt_f,cond_false]) fs.length 0 big x (by omega) (bbig (by omega)) (by simpa using hx)
theorem appType_eq (x:List Int) (t:K.Typ) (h:TypW t) (hx:x.length+(codeT t).length≤L36):cimage_appendType x (t,())=some (x++codeT t):=by
 show nimage_appendType (iterV (gimage_appendType_0 big) big) x (t,())=_
 unfold nimage_appendType codeT at *
 obtain ⟨h1,h2,h3,h4⟩:=h
 simp only [List.length_cons] at hx
 dsimp only
 rw [app_ok (by simp;omega),cond_true]
 have e:∀ y:List Int,x++t.1::y=(x++[t.1])++y:=fun y=>by simp
 rw [e]
 have hx1:(List.append x [t.1]).length=x.length+1:=by simp
 show _=some (List.append x [t.1]++_)
 generalize List.append x [t.1]=z at *
 unfold tailT at *
 simp only [K.beq_dec]
 by_cases c4:t.1=4
 ·simp only [c4,decide_true,cond_true,true_or,if_true] at hx ⊢
  rw [appNumber_eq z _ h1 (by omega)];rfl
 ·by_cases c7:t.1=7
  ·simp only [c7,decide_true,cond_true,or_true,if_true] at hx ⊢
   rw [show decide ((7:Int)=4)=false from rfl,cond_false,appNumber_eq z _ h1 (by omega)];rfl
  ·by_cases c6:t.1=6
   ·simp only [c6,decide_true,cond_true,if_true] at hx ⊢
    rw [if_neg (by omega),List.length_append] at hx
    rw [show decide ((6:Int)=4)=false from rfl,show decide ((6:Int)=7)=false from rfl,cond_false,cond_false,if_neg (by omega),appNumber_eq z _ h1 (by omega),Option.bind_some,appNumber_eq _ _ h2 (by rw [List.length_append];omega),Option.bind_some,List.append_assoc]
   ·by_cases c5:t.1=5
    ·simp only [c5,decide_true,cond_true,if_true] at hx ⊢
     rw [if_neg (by omega),if_neg (by omega)] at hx
     unfold codeFs at *
     rw [List.length_append] at hx
     rw [show decide ((5:Int)=4)=false from rfl,show decide ((5:Int)=7)=false from rfl,show decide ((5:Int)=6)=false from rfl,cond_false,cond_false,cond_false,if_neg (by omega),if_neg (by omega),appLen_eq z _ h3 (by omega),Option.bind_some,typFields _ _ h3 h4 (by rw [List.length_append];omega),List.append_assoc]
    ·simp only [decide_false,cond_false,c4,c5,c6,c7,or_self,if_false,List.append_nil]
theorem appInstr_eq (x:List Int) (y:Ins) (h:okI y=true) (w:WfI y) (hx:x.length+(enc y).length≤L36):cimage_appendInstr x (y,())=some (x++enc y):=by
 show nimage_appendInstr x (y,())=_
 unfold nimage_appendInstr
 simp only [Encode_eq y w,h,if_true,Option.bind_some]
 rw [app_ok hx,cond_true];rfl
theorem appRuns_eq (x:List Int) (l:List T.Rn) (n:Nat) (h:l.length≤1000000) (hv:T.V64 l) (hc:T.checkR l n=0) (hx:x.length+(T.codedR l).length≤L36):cimage_appendRuns x (l,((n:Int),()))=some (x++T.codedR l):=by
 show nimage_appendRuns x (l,((n:Int),()))=_
 unfold nimage_appendRuns
 dsimp only
 rw [T.pEncode_eq l n (by omega) hv,T.encR,if_neg (by omega),Option.bind_some]
 rw [app_ok hx,cond_true];rfl
theorem appFunc_eq (x:List Int) (f:Fun) (h:FunW f) (hx:x.length+(codeFn f).length≤L36):cimage_appendFunc x (f,())=some (x++codeFn f):=by
 show nimage_appendFunc (iterV (gimage_appendFunc_0 big) big) x (f,())=_
 unfold nimage_appendFunc codeFn codeFs at *
 obtain ⟨h1,h2,h3,h4,h5,h6,h7⟩:=h
 simp only [List.length_append] at hx
 dsimp only
 rw [appText_eq x _ h1 (by omega),Option.bind_some,appNumber_eq _ _ h2 (by rw [List.length_append];omega),Option.bind_some,signed_eq _ h3.1 h3.2,Option.bind_some,app_ok (by simp only [List.length_append];omega),cond_true]
 change (cimage_appendNumber (_++_) _).bind _=_
 rw [appLen_eq _ _ h4.1 (by simp only [List.length_append];omega),Option.bind_some]
 have inner:∀ (self0) (x:List Int),x.length+((f.2.2.2.2.1.flatMap enc).length+((T.codedR f.2.2.2.2.2.1).length+(T.codedR f.2.2.2.2.2.2.1).length))≤L36→iterV (gimage_appendFunc_1 big self0) big (f.2.2.2.2.1,(f.2.2.2.2.1.length:Int),(0:Int),x,f)=some (x++(f.2.2.2.2.1.flatMap enc++(T.codedR f.2.2.2.2.2.1++T.codedR f.2.2.2.2.2.2.1))):=by
  intro self0 x hx
  have:=loop_app (g:=gimage_appendFunc_1 big self0) (mk:=fun i x=>(f.2.2.2.2.1,(f.2.2.2.2.1.length:Int),(i:Int),x,f)) (l:=f.2.2.2.2.1) (cod:=enc) (kk:=fun x=>some (x++(T.codedR f.2.2.2.2.2.1++T.codedR f.2.2.2.2.2.2.1))) (B:=L36 - ((T.codedR f.2.2.2.2.2.1).length+(T.codedR f.2.2.2.2.2.2.1).length))
   (fun self i x hi hx=>by
    have hc:=h5.2 _ (List.getElem_mem hi)
    simp only [gimage_appendFunc_1,himage_appendFunc_1,lt_t hi,cond_true,gI hi,Option.bind_some,wS hi (by omega),appInstr_eq x f.2.2.2.2.1[i] hc.1 hc.2 (by omega)])
   (fun self x hx=>by
    simp only [gimage_appendFunc_1,himage_appendFunc_1,lt_f,cond_false]
    rw [appRuns_eq x _ _ h6.1 h6.2.1 h6.2.2 (by omega),Option.bind_some,appRuns_eq _ _ _ h7.1 h7.2.1 h7.2.2 (by rw [List.length_append];omega),Option.bind_some,List.append_assoc]) f.2.2.2.2.1.length 0 big x (by omega) (bbig (by omega)) (by simp only [List.drop_zero];omega)
  refine Eq.trans this ?_
  simp only [List.drop_zero,List.append_assoc]
 have:=loop_app (g:=gimage_appendFunc_0 big) (mk:=fun i x=>(f.2.2.2.1,(f.2.2.2.1.length:Int),(i:Int),x,f)) (l:=f.2.2.2.1) (cod:=codeFl) (kk:=fun x=>some (x++(vary f.2.2.2.2.1.length++(f.2.2.2.2.1.flatMap enc++(T.codedR f.2.2.2.2.2.1++T.codedR f.2.2.2.2.2.2.1))))) (B:=L36 - ((vary f.2.2.2.2.1.length).length+((f.2.2.2.2.1.flatMap enc).length+((T.codedR f.2.2.2.2.2.1).length+(T.codedR f.2.2.2.2.2.2.1).length))))
  (fun self i x hi hx=>by
   simp only [gimage_appendFunc_0,himage_appendFunc_0,lt_t hi,cond_true,gI hi,Option.bind_some,wS hi (by omega),appField_eq x f.2.2.2.1[i] (h4.2 _ (List.getElem_mem hi)) (by omega)])
  (fun self x hx=>by
   simp only [gimage_appendFunc_0,himage_appendFunc_0,lt_f,cond_false]
   rw [appLen_eq x _ h5.1 (by omega),Option.bind_some,inner _ _ (by rw [List.length_append];omega),List.append_assoc]) f.2.2.2.1.length 0 big (x++said f.1++vary f.2.1.toNat++vary (dbl f.2.2.1)++vary f.2.2.2.1.length) (by omega) (bbig (by omega)) (by simp only [List.drop_zero,List.length_append];omega)
 refine Eq.trans this ?_
 simp only [List.drop_zero,List.append_assoc]
theorem appImage_eq (x:List Int) (m:Img) (h:ImgW m) (hx:x.length+(codeI m).length≤L36):cimage_appendImage x (m,())=some (x++codeI m):=by
 show nimage_appendImage (iterV (gimage_appendImage_0 big) big) x (m,())=_
 unfold nimage_appendImage codeI at *
 obtain ⟨⟨h1,h2⟩,⟨h3,h4⟩,h5,h6⟩:=h
 simp only [List.length_append] at hx
 dsimp only
 rw [appLen_eq x _ h1 (by omega),Option.bind_some]
 have fns:∀ (self0 self1) (x:List Int),x.length+(m.2.2.1.flatMap codeFn).length≤L36→iterV (gimage_appendImage_2 big self0 self1) big (m.2.2.1,(m.2.2.1.length:Int),(0:Int),x)=some (x++m.2.2.1.flatMap codeFn):=by
  intro self0 self1 x hx
  exact loop_app (g:=gimage_appendImage_2 big self0 self1) (mk:=fun i x=>(m.2.2.1,(m.2.2.1.length:Int),(i:Int),x)) (l:=m.2.2.1) (cod:=codeFn) (kk:=some) (B:=L36)
   (fun self i x hi hx=>by
    simp only [gimage_appendImage_2,himage_appendImage_2,lt_t hi,cond_true,gI hi,Option.bind_some,wS hi (by omega),appFunc_eq x m.2.2.1[i] (h6 _ (List.getElem_mem hi)) hx])
   (fun self x hx=>by simp only [gimage_appendImage_2,himage_appendImage_2,lt_f,cond_false]) m.2.2.1.length 0 big x (by omega) (bbig (by omega)) (by simpa using hx)
 have txs:∀ (self0) (x:List Int),x.length+((m.2.1.flatMap said).length+((vary m.2.2.1.length).length+(m.2.2.1.flatMap codeFn).length))≤L36→iterV (gimage_appendImage_1 big self0) big (m.2.1,(m.2.1.length:Int),(0:Int),x,m)=some (x++(m.2.1.flatMap said++(vary m.2.2.1.length++m.2.2.1.flatMap codeFn))):=by
  intro self0 x hx
  have:=loop_app (g:=gimage_appendImage_1 big self0) (mk:=fun i x=>(m.2.1,(m.2.1.length:Int),(i:Int),x,m)) (l:=m.2.1) (cod:=said) (kk:=fun x=>some (x++(vary m.2.2.1.length++m.2.2.1.flatMap codeFn))) (B:=L36 - ((vary m.2.2.1.length).length+(m.2.2.1.flatMap codeFn).length))
   (fun self i x hi hx=>by
    simp only [gimage_appendImage_1,himage_appendImage_1,lt_t hi,cond_true,gI hi,Option.bind_some,wS hi (by omega),appText_eq x m.2.1[i] (h4 _ (List.getElem_mem hi)) (by omega)])
   (fun self x hx=>by
    simp only [gimage_appendImage_1,himage_appendImage_1,lt_f,cond_false]
    rw [appLen_eq x _ h5 (by omega),Option.bind_some,fns _ _ _ (by rw [List.length_append];omega),List.append_assoc]) m.2.1.length 0 big x (by omega) (bbig (by omega)) (by simp only [List.drop_zero];omega)
  refine Eq.trans this ?_
  simp only [List.drop_zero,List.append_assoc]
 have:=loop_app (g:=gimage_appendImage_0 big) (mk:=fun i x=>(m.1,(m.1.length:Int),(i:Int),x,m)) (l:=m.1) (cod:=codeT) (kk:=fun x=>some (x++(vary m.2.1.length++(m.2.1.flatMap said++(vary m.2.2.1.length++m.2.2.1.flatMap codeFn))))) (B:=L36 - ((vary m.2.1.length).length+((m.2.1.flatMap said).length+((vary m.2.2.1.length).length+(m.2.2.1.flatMap codeFn).length))))
  (fun self i x hi hx=>by
   simp only [gimage_appendImage_0,himage_appendImage_0,lt_t hi,cond_true,gI hi,Option.bind_some,wS hi (by omega),appType_eq x m.1[i] (h2 _ (List.getElem_mem hi)) (by omega)])
  (fun self x hx=>by
   simp only [gimage_appendImage_0,himage_appendImage_0,lt_f,cond_false]
   rw [appLen_eq x _ h3 (by omega),Option.bind_some,txs _ _ (by rw [List.length_append];omega),List.append_assoc]) m.1.length 0 big (x++vary m.1.length) (by omega) (bbig (by omega)) (by simp only [List.drop_zero,List.length_append];omega)
 refine Eq.trans this ?_
 simp only [List.drop_zero,List.append_assoc]
theorem flat_len {α:Type} {f:α→List Int} {k:Nat}:∀ {l:List α},(∀ x∈l,(f x).length≤k)→(l.flatMap f).length≤k * l.length
 | [],_=>by simp
 | x::r,h=>by
  have h1:=h x (by simp)
  have h2:=flat_len (l:=r) fun y hy=>h y (by simp [hy])
  rw [List.flatMap_cons,List.length_append,List.length_cons,Nat.mul_succ]
  omega
theorem said_len (s:List Int):(said s).length≤10+s.length:=by
 unfold said;rw [List.length_append];have:=(vary_len s.length).2;omega
theorem named_len {s:List Int} (h:K.namedB s=true):s.length≤16:=by
 unfold K.namedB at h
 split at h
 ·cases h
 ·simp only [Bool.and_eq_true,decide_eq_true_eq] at h;exact h.1
theorem idx_63 {x n:Int} (h:K.idxB x n=true) (hn:n≤1000000):P63 x:=by
 have:=K.idxB_iff.1 h
 exact ⟨this.1,by omega⟩
theorem codeFl_len {f:K.Fld} (h:f.1.length≤16):(codeFl f).length≤36:=by
 unfold codeFl;rw [List.length_append];have:=said_len f.1;have:=(vary_len f.2.1.toNat).2;omega
theorem codeFs_len {fs:List K.Fld} (h:∀ f∈fs,f.1.length≤16) (hl:fs.length≤16):(codeFs fs).length≤586:=by
 unfold codeFs;rw [List.length_append];have:=(vary_len fs.length).2
 have:=flat_len (l:=fs) (f:=codeFl) (k:=36) fun f hf=>codeFl_len (h f hf)
 omega
theorem segR_len:∀ (l:List T.Rn) (w:Int),(T.segR w l).length≤20 * l.length
 | [],_=>by simp [T.segR]
 | r::l,w=>by
  have:=segR_len l r.1
  have:=(vary_len (r.1 - w).toNat).2
  have:=(vary_len r.2.1.toNat).2
  simp only [T.segR,List.length_append,List.length_cons]
  omega
theorem codedR_len {l:List T.Rn} {n:Nat} (h:T.checkR l n=0):(T.codedR l).length≤4010:=by
 have h1:=T.checkR_len h
 unfold T.codedR;rw [List.length_append]
 have:=(vary_len l.length).2
 have:=segR_len l 0
 omega
structure FunM (f:Fun):Prop where
 res:I64 f.2.2.1
 code:∀ x∈f.2.2.2.2.1,WfI x
 s1:T.V64 f.2.2.2.2.2.1
 s2:T.V64 f.2.2.2.2.2.2.1
def ImgM (m:Img):Prop:=∀ f∈m.2.2.1,FunM f
theorem names_ok {ns:List (List Int)} (h:namesB ns=true):(∀ s∈ns,s.length≤16)∧ns.Nodup:=by
 simp only [namesB,Bool.and_eq_true,decide_eq_true_eq,List.all_eq_true] at h
 exact ⟨fun s hs=>named_len (h.1 s hs),h.2⟩
theorem slots_ok {fs:List K.Fld} {n:Int} (h:slotsB n fs=true) (hn:n≤1000000):fs.length≤16∧(∀ f∈fs,FldW f)∧∀ f∈fs,f.1.length≤16:=by
 simp only [slotsB,Bool.and_eq_true,decide_eq_true_eq,List.all_eq_true] at h
 have h3:=(names_ok h.2.2).1
 have h4:∀ f∈fs,f.1.length≤16:=fun f hf=>h3 _ (List.mem_map_of_mem hf)
 exact ⟨h.1,fun f hf=>⟨by have:=h4 f hf;omega,idx_63 (h.2.1 f hf) hn⟩,h4⟩
theorem typ_ok {t:K.Typ} {i n:Int} (h:K.builtB t i n=true) (hi:i≤1000000) (hn:n≤1000000):TypW t∧t.2.2.2.1.length≤8∧(∀ f∈t.2.2.2.1,f.1.length≤16)∧(codeT t).length≤600:=by
 have key:TypW t∧t.2.2.2.1.length≤8∧∀ f∈t.2.2.2.1,f.1.length≤16:=by
  unfold K.builtB at h
  have z:P63 0:=⟨by omega,by omega⟩
  have emp:t.2.2.2.1.length=0→t.2.2.2.1.length≤1000000∧(∀ f∈t.2.2.2.1,FldW f)∧t.2.2.2.1.length≤8∧∀ f∈t.2.2.2.1,f.1.length≤16:=fun e=>by
   have:=List.eq_nil_of_length_eq_zero e
   rw [this];simp
  split at h
  ·simp only [Bool.and_eq_true,decide_eq_true_eq] at h
   have:=emp h.2.2
   exact ⟨⟨by rw [h.1];exact z,by rw [h.2.1];exact z,this.1,this.2.1⟩,this.2.2⟩
  split at h
  ·simp only [Bool.and_eq_true,decide_eq_true_eq] at h
   have:=emp h.2.2
   exact ⟨⟨idx_63 h.1 hn,by rw [h.2.1];exact z,this.1,this.2.1⟩,this.2.2⟩
  split at h
  ·simp only [Bool.and_eq_true,decide_eq_true_eq] at h
   have:=emp h.2.2
   exact ⟨⟨idx_63 h.1 hi,⟨by omega,by omega⟩,this.1,this.2.1⟩,this.2.2⟩
  split at h
  ·simp only [Bool.and_eq_true,decide_eq_true_eq,K.areB,List.all_eq_true] at h
   obtain ⟨g1,g2,g3,g4,g5,g6⟩:=h
   have g7:∀ f∈t.2.2.2.1,f.1.length≤16:=fun f hf=>named_len (g4 f hf)
   exact ⟨⟨by rw [g1];exact z,by rw [g2];exact z,by omega,fun f hf=>⟨by have:=g7 f hf;omega,idx_63 (g6 f hf) hi⟩⟩,g3.2,g7⟩
  ·cases h
 refine ⟨key.1,key.2.1,key.2.2,?_⟩
 have h1:=codeFs_len key.2.2 (by omega)
 have h2:=(vary_len t.2.1.toNat).2
 have h3:=(vary_len t.2.2.1.toNat).2
 unfold codeT tailT
 split
 ·rw [List.length_cons];omega
 split
 ·rw [List.length_cons,List.length_append];omega
 split
 ·rw [List.length_cons];omega
 ·simp
theorem fun_ok {f:Fun} {n:Int} (h:okF n f=true) (hn:n≤1000000) (hm:f.1.length≤16) (w:FunM f):FunW f∧(codeFn f).length≤20000:=by
 simp only [okF,codeB,Bool.and_eq_true,decide_eq_true_eq,Bool.or_eq_true,List.all_eq_true] at h
 obtain ⟨h1,h2,h3,h4,⟨h5,h6,h7⟩,h8,h9⟩:=h
 obtain ⟨g1,g2,g3⟩:=slots_ok h1 hn
 have l1:=T.checkR_len h8
 have l2:=T.checkR_len h9
 refine ⟨⟨by omega,⟨h2,by omega⟩,w.res,⟨by omega,g2⟩,⟨by omega,fun x hx=>⟨h7 x hx,w.code x hx⟩⟩,⟨by omega,w.s1,h8⟩,by omega,w.s2,h9⟩,?_⟩
 unfold codeFn
 simp only [List.length_append]
 have a1:=said_len f.1
 have a2:=(vary_len f.2.1.toNat).2
 have a3:=(vary_len (dbl f.2.2.1)).2
 have a4:=codeFs_len g3 g1
 have a5:=(vary_len f.2.2.2.2.1.length).2
 have a6:=flat_len (l:=f.2.2.2.2.1) (f:=enc) (k:=31) fun x hx=>(enc_bytes (h7 x hx) (w.code x hx)).2
 have a7:=codedR_len h8
 have a8:=codedR_len h9
 omega
theorem img_ok {m:Img} (h:okImg m=true) (w:ImgM m):ImgW m∧(codeI m).length≤1000000:=by
 simp only [okImg,okTypes,okTexts,okFuncs,Bool.and_eq_true,decide_eq_true_eq,List.all_eq_true] at h
 obtain ⟨⟨⟨h1,h2,_⟩,_⟩,⟨h3,h4⟩,h5,h6,h7,h8⟩:=h
 have ty:∀ t∈m.1,TypW t∧(codeT t).length≤600:=fun t ht=>by
  obtain ⟨i,hi,rfl⟩:=List.mem_iff_getElem.1 ht
  have:=typ_ok (h2 i hi) (by omega) (by omega)
  exact ⟨this.1,this.2.2.2⟩
 have fn:∀ f∈m.2.2.1,FunW f∧(codeFn f).length≤20000:=fun f hf=>fun_ok (h7 f hf) (by omega) ((names_ok h8).1 _ (List.mem_map_of_mem hf)) (w f hf)
 refine ⟨⟨⟨by omega,fun t ht=>(ty t ht).1⟩,⟨by omega,fun s hs=>by have:=h4 s hs;omega⟩,by omega,fun f hf=>(fn f hf).1⟩,?_⟩
 unfold codeI
 simp only [List.length_append]
 have a1:=(vary_len m.1.length).2
 have a2:=flat_len (l:=m.1) (f:=codeT) (k:=600) fun t ht=>(ty t ht).2
 have a3:=(vary_len m.2.1.length).2
 have a4:=flat_len (l:=m.2.1) (f:=said) (k:=74) fun s hs=>by have:=said_len s;have:=h4 s hs;omega
 have a5:=(vary_len m.2.2.1.length).2
 have a6:=flat_len (l:=m.2.2.1) (f:=codeFn) (k:=20000) fun f hf=>(fn f hf).2
 omega
def chk (m:Img):Int:=if okImg m=true then (if (codeI m).length > 20000 then 4 else 0) else 8
def encI (m:Img):List Int×Int:=if chk m=0 then (codeI m,0) else ([],chk m)
structure ImgL (m:Img):Prop where
 ty:m.1.length≤1000000
 fn:∀ f∈m.2.2.1,f.2.2.2.2.2.1.length≤1000000∧f.2.2.2.2.2.2.1.length≤1000000
 mem:ImgM m
theorem pEncodeI_eq (m:Img) (h:ImgL m):cimage_Encode m=some (encI m):=by
 show nimage_Encode m=_
 unfold nimage_Encode encI chk
 rw [isValid_eq m h.ty h.fn,Option.bind_some]
 by_cases hv:okImg m=true
 ·obtain ⟨g1,g2⟩:=img_ok hv h.mem
  rw [hv,Bool.not_true,cond_false,appImage_eq [] m g1 (by simp;show (codeI m).length≤68719476736;omega),Option.bind_some,if_pos rfl,List.nil_append]
  by_cases hl:(codeI m).length > 20000
  ·rw [decide_eq_true (by omega),cond_true,if_pos hl,if_neg (by omega)]
  ·rw [decide_eq_false (by omega),cond_false,if_neg hl,if_pos rfl]
 ·rw [if_neg hv,if_neg (by omega)]
  simp only [Bool.not_eq_true] at hv
  rw [hv];rfl
theorem encI_err (m:Img):(encI m).2=chk m:=by
 unfold encI
 split
 ·rename_i h;rw [h]
 ·rfl
instance:DecidableEq K.Typ:=@instDecidableEqProd _ _ inferInstance (@instDecidableEqProd _ _ inferInstance (@instDecidableEqProd _ _ inferInstance (@instDecidableEqProd _ _ inferInstance inferInstance)))
instance:DecidableEq Fun:=@instDecidableEqProd _ _ inferInstance (@instDecidableEqProd _ _ inferInstance (@instDecidableEqProd _ _ inferInstance (@instDecidableEqProd _ _ inferInstance (@instDecidableEqProd _ _ inferInstance (@instDecidableEqProd _ _ inferInstance (@instDecidableEqProd _ _ inferInstance inferInstance))))))
instance:DecidableEq Img:=@instDecidableEqProd _ _ inferInstance (@instDecidableEqProd _ _ inferInstance (@instDecidableEqProd _ _ inferInstance inferInstance))
theorem same_all {α:Type} [DecidableEq α] {a b:List α} (h:a.length=b.length):(List.range' 0 a.length).all (fun i=>decide (a[i]? = b[i]?))=decide (a=b):=by
 rw [Bool.eq_iff_iff]
 simp only [List.all_eq_true,List.mem_range'_1,decide_eq_true_eq]
 constructor
 ·intro g
  apply List.ext_getElem?
  intro i
  by_cases hi:i < a.length
  ·exact g i ⟨by omega,by omega⟩
  ·rw [List.getElem?_eq_none (by omega),List.getElem?_eq_none (by omega)]
 ·rintro rfl i _;rfl
theorem pair_at {α:Type} [DecidableEq α] {a b:List α} {i:Nat} (h:i < a.length) (h':i < b.length):decide (a[i]? = b[i]?)=decide (a[i]=b[i]):=by simp [h,h']
theorem eqD_dec {t:Ty} [DecidableEq t.den] (x y:t.den):eqD t x y=decide (x=y):=by rw [Bool.eq_iff_iff,eqD_iff,decide_eq_true_eq]
theorem ne_len {α:Type} {a b:List α}:((a.length:Int) != (b.length:Int))=!decide (a.length=b.length):=by
 by_cases h:a.length=b.length
 ·simp [h]
 ·have:((a.length:Int) != (b.length:Int))=true:=by simp;omega
  rw [this,decide_eq_false h];rfl
theorem bne_dec (a b:Int):(a != b)=!decide (a=b):=by by_cases h:a=b <;> simp [h]
theorem bif_not {β:Type} (b:Bool) (x y:β):(bif !b then x else y)=bif b then y else x:=by cases b <;> rfl
theorem bif_tf (b:Bool):(bif b then some true else some false)=some b:=by cases b <;> rfl
theorem sameFields (a b:List K.Fld) (h:a.length≤1000000):cref04_SameFields (a,b)=some (decide (a=b)):=by
 show nref04_SameFields (iterV (gref04_SameFields_0 big) big) (a,b)=_
 unfold nref04_SameFields
 dsimp only
 rw [ne_len,bif_not]
 by_cases hl:a.length=b.length
 ·rw [decide_eq_true hl,cond_true]
  have:=loop_all (g:=gref04_SameFields_0 big) (mk:=fun i=>(a,b,(i:Int))) (p:=fun i=>decide (a[i]? = b[i]?)) (no:=some false) (kk:=some true) (n:=a.length)
   (fun self i hi=>by
    simp only [gref04_SameFields_0,href04_SameFields_0,lt_t hi,cond_true,gI hi,gI (show i < b.length by omega),Option.bind_some,wS hi (by omega),pair_at hi (show i < b.length by omega),bif_not,eqD_dec])
   (fun self=>by simp only [gref04_SameFields_0,href04_SameFields_0,lt_f,cond_false]) a.length 0 big (by omega) (bbig (by omega))
  rw [same_all hl,bif_tf] at this
  exact this
 ·rw [decide_eq_false hl,cond_false,decide_eq_false (fun e=>hl (by rw [e]))]
theorem sameIns (a b:List Ins) (h:a.length≤1000000):cref07_Same (a,b)=some (decide (a=b)):=by
 show nref07_Same (iterV (gref07_Same_0 big) big) (a,b)=_
 unfold nref07_Same
 dsimp only
 rw [ne_len,bif_not]
 by_cases hl:a.length=b.length
 ·rw [decide_eq_true hl,cond_true]
  have:=loop_all (g:=gref07_Same_0 big) (mk:=fun i=>(a,b,(i:Int))) (p:=fun i=>decide (a[i]? = b[i]?)) (no:=some false) (kk:=some true) (n:=a.length)
   (fun self i hi=>by
    simp only [gref07_Same_0,href07_Same_0,lt_t hi,cond_true,gI hi,gI (show i < b.length by omega),Option.bind_some,wS hi (by omega),pair_at hi (show i < b.length by omega),bif_not,eqD_dec])
   (fun self=>by simp only [gref07_Same_0,href07_Same_0,lt_f,cond_false]) a.length 0 big (by omega) (bbig (by omega))
  rw [same_all hl,bif_tf] at this
  exact this
 ·rw [decide_eq_false hl,cond_false,decide_eq_false (fun e=>hl (by rw [e]))]
theorem sameRuns (a b:List T.Rn) (h:a.length≤1000000):cref08_Same (a,b)=some (decide (a=b)):=by
 show nref08_Same (iterV (gref08_Same_0 big) big) (a,b)=_
 unfold nref08_Same
 dsimp only
 rw [ne_len,bif_not]
 by_cases hl:a.length=b.length
 ·rw [decide_eq_true hl,cond_true]
  have:=loop_all (g:=gref08_Same_0 big) (mk:=fun i=>(a,b,(i:Int))) (p:=fun i=>decide (a[i]? = b[i]?)) (no:=some false) (kk:=some true) (n:=a.length)
   (fun self i hi=>by
    simp only [gref08_Same_0,href08_Same_0,lt_t hi,cond_true,gI hi,gI (show i < b.length by omega),Option.bind_some,wS hi (by omega),pair_at hi (show i < b.length by omega),bif_not,eqD_dec])
   (fun self=>by simp only [gref08_Same_0,href08_Same_0,lt_f,cond_false]) a.length 0 big (by omega) (bbig (by omega))
  rw [same_all hl,bif_tf] at this
  exact this
 ·rw [decide_eq_false hl,cond_false,decide_eq_false (fun e=>hl (by rw [e]))]
theorem sameTable (a b:List K.Typ) (h:a.length≤1000000) (hf:∀ t∈a,t.2.2.2.1.length≤1000000):cref04_SameTable (a,b)=some (decide (a=b)):=by
 show nref04_SameTable (iterV (gref04_SameTable_0 big) big) (a,b)=_
 unfold nref04_SameTable
 dsimp only
 rw [ne_len,bif_not]
 by_cases hl:a.length=b.length
 ·rw [decide_eq_true hl,cond_true]
  have:=loop_all (g:=gref04_SameTable_0 big) (mk:=fun i=>(a,b,(i:Int))) (p:=fun i=>decide (a[i]? = b[i]?)) (no:=some false) (kk:=some true) (n:=a.length)
   (fun self i hi=>by
    have hi':i < b.length:=by omega
    simp only [gref04_SameTable_0,href04_SameTable_0,lt_t hi,cond_true,gI hi,gI hi',Option.bind_some,wS hi (by omega),pair_at hi hi',bne_dec,bif_not,sameFields _ b[i].2.2.2.1 (hf _ (List.getElem_mem hi))]
    generalize a[i]=t
    generalize b[i]=u
    by_cases e:t=u
    ·subst e;simp
    ·rw [decide_eq_false e,cond_false]
     by_cases e1:t.1=u.1
     ·by_cases e2:t.2.1=u.2.1
      ·by_cases e3:t.2.2.1=u.2.2.1
       ·have e4:¬ t.2.2.2.1=u.2.2.2.1:=fun e4=>e (Prod.ext e1 (Prod.ext e2 (Prod.ext e3 (Prod.ext e4 rfl))))
        rw [decide_eq_true e1,decide_eq_true e2,decide_eq_true e3,decide_eq_false e4];rfl
       ·rw [decide_eq_true e1,decide_eq_true e2,decide_eq_false e3];rfl
      ·rw [decide_eq_true e1,decide_eq_false e2];rfl
     ·rw [decide_eq_false e1];rfl)
   (fun self=>by simp only [gref04_SameTable_0,href04_SameTable_0,lt_f,cond_false]) a.length 0 big (by omega) (bbig (by omega))
  rw [same_all hl,bif_tf] at this
  exact this
 ·rw [decide_eq_false hl,cond_false,decide_eq_false (fun e=>hl (by rw [e]))]
structure FunB (f:Fun):Prop where
 sl:f.2.2.2.1.length≤1000000
 code:f.2.2.2.2.1.length≤1000000
 s1:f.2.2.2.2.2.1.length≤1000000
 s2:f.2.2.2.2.2.2.1.length≤1000000
theorem sameFunc (f g:Fun) (h:FunB f):cref09_SameFunc (f,g)=some (decide (f=g)):=by
 show nref09_SameFunc (f,g)=_
 unfold nref09_SameFunc
 simp only [K.beq_dec,sameFields _ g.2.2.2.1 h.sl,sameIns _ g.2.2.2.2.1 h.code,sameRuns _ g.2.2.2.2.2.1 h.s1,sameRuns _ g.2.2.2.2.2.2.1 h.s2,Option.bind_some,eqD_dec]
 by_cases e:f=g
 ·subst e;simp
 ·rw [decide_eq_false e]
  by_cases e1:f.1=g.1
  ·by_cases e2:f.2.1=g.2.1
   ·by_cases e3:f.2.2.1=g.2.2.1
    ·by_cases e4:f.2.2.2.1=g.2.2.2.1
     ·by_cases e5:f.2.2.2.2.1=g.2.2.2.2.1
      ·by_cases e6:f.2.2.2.2.2.1=g.2.2.2.2.2.1
       ·have e7:¬ f.2.2.2.2.2.2.1=g.2.2.2.2.2.2.1:=fun e7=>e (Prod.ext e1 (Prod.ext e2 (Prod.ext e3 (Prod.ext e4 (Prod.ext e5 (Prod.ext e6 (Prod.ext e7 rfl)))))))
        rw [decide_eq_true e1,decide_eq_true e2,decide_eq_true e3,decide_eq_true e4,decide_eq_true e5,decide_eq_true e6,decide_eq_false e7];rfl
       ·rw [decide_eq_true e1,decide_eq_true e2,decide_eq_true e3,decide_eq_true e4,decide_eq_true e5,decide_eq_false e6];rfl
      ·rw [decide_eq_true e1,decide_eq_true e2,decide_eq_true e3,decide_eq_true e4,decide_eq_false e5];rfl
     ·rw [decide_eq_true e1,decide_eq_true e2,decide_eq_true e3,decide_eq_false e4];rfl
    ·rw [decide_eq_true e1,decide_eq_true e2,decide_eq_false e3];rfl
   ·rw [decide_eq_true e1,decide_eq_false e2];rfl
  ·rw [decide_eq_false e1];rfl
structure ImgB (m:Img):Prop where
 ty:m.1.length≤1000000∧∀ t∈m.1,t.2.2.2.1.length≤1000
 tx:m.2.1.length≤1000000
 fn:m.2.2.1.length≤1000000∧∀ f∈m.2.2.1,FunB f
theorem sameImg (m n:Img) (h:ImgB m):cref09_Same (m,n)=some (decide (m=n)):=by
 show nref09_Same (iterV (gref09_Same_0 big) big) (m,n)=_
 unfold nref09_Same
 dsimp only
 rw [sameTable m.1 n.1 h.ty.1 (fun t ht=>by have:=h.ty.2 t ht;omega),Option.bind_some,bif_not,ne_len,bif_not,ne_len,bif_not]
 by_cases e1:m.1=n.1
 ·rw [decide_eq_true e1,cond_true]
  by_cases hl:m.2.1.length=n.2.1.length
  ·rw [decide_eq_true hl,cond_true]
   by_cases hk:m.2.2.1.length=n.2.2.1.length
   ·rw [decide_eq_true hk,cond_true]
    have fns:∀ self0,iterV (gref09_Same_1 big self0) big (0,m,n)=some (decide (m.2.2.1=n.2.2.1)):=by
     intro self0
     have:=loop_all (g:=gref09_Same_1 big self0) (mk:=fun i=>((i:Int),m,n)) (p:=fun i=>decide (m.2.2.1[i]? = n.2.2.1[i]?)) (no:=some false) (kk:=some true) (n:=m.2.2.1.length)
      (fun self i hi=>by
       have hi':i < n.2.2.1.length:=by omega
       simp only [gref09_Same_1,href09_Same_1,lt_t hi,cond_true,gI hi,gI hi',Option.bind_some,wS hi (by have:=h.fn.1;omega),pair_at hi hi',bif_not,sameFunc _ n.2.2.1[i] (h.fn.2 _ (List.getElem_mem hi))])
      (fun self=>by simp only [gref09_Same_1,href09_Same_1,lt_f,cond_false]) m.2.2.1.length 0 big (by omega) (bbig (by have:=h.fn.1;omega))
     rw [same_all hk,bif_tf] at this
     exact this
    have:=loop_all (g:=gref09_Same_0 big) (mk:=fun i=>((i:Int),m,n)) (p:=fun i=>decide (m.2.1[i]? = n.2.1[i]?)) (no:=some false) (kk:=some (decide (m.2.2.1=n.2.2.1))) (n:=m.2.1.length)
     (fun self i hi=>by
      have hi':i < n.2.1.length:=by omega
      simp only [gref09_Same_0,href09_Same_0,lt_t hi,cond_true,gI hi,gI hi',Option.bind_some,wS hi (by have:=h.tx;omega),pair_at hi hi',bif_not,eqD_dec])
     (fun self=>by
      simp only [gref09_Same_0,href09_Same_0,lt_f,cond_false]
      exact fns _) m.2.1.length 0 big (by omega) (bbig (by have:=h.tx;omega))
    rw [same_all hl] at this
    refine Eq.trans this ?_
    by_cases e2:m.2.1=n.2.1
    ·rw [decide_eq_true e2,cond_true]
     by_cases e3:m.2.2.1=n.2.2.1
     ·rw [decide_eq_true e3,decide_eq_true (Prod.ext e1 (Prod.ext e2 (Prod.ext e3 rfl)))]
     ·rw [decide_eq_false e3,decide_eq_false (fun e=>e3 (by rw [e]))]
    ·rw [decide_eq_false e2,cond_false,decide_eq_false (fun e=>e2 (by rw [e]))]
   ·rw [decide_eq_false hk,cond_false,decide_eq_false (fun e=>hk (by rw [e]))]
  ·rw [decide_eq_false hl,cond_false,decide_eq_false (fun e=>hl (by rw [e]))]
 ·rw [decide_eq_false e1,cond_false,decide_eq_false (fun e=>e1 (by rw [e]))]
theorem all_at {p:Nat→Bool} {n:Nat} (h:(List.range' 0 n).all p=true) {i:Nat} (hi:i < n):p i=true:=List.all_eq_true.1 h i (by simp [List.mem_range'_1];exact hi)
structure FunG (f:Fun):Prop where
 name:f.1.length≤100
 sl:f.2.2.2.1.length≤20
 code:f.2.2.2.2.1.length≤210
 s1:f.2.2.2.2.2.1.length≤210
 s2:f.2.2.2.2.2.2.1.length≤210
structure ImgG (m:Img):Prop where
 ty:m.1.length≤40∧∀ t∈m.1,t.2.2.2.1.length≤20
 tx:m.2.1.length≤40
 fn:m.2.2.1.length≤40∧∀ f∈m.2.2.1,FunG f
def nS (l:List Fun):Nat→Int
 | 0=>0
 | i+1=>IntKind.i64.wrap (nS l i+(((l[i]?).map fun f=>f.2.2.2.2.1.length).getD 0:Nat))
def gB (f:Fun) (n:Int):Bool:=decide (f.1.length≤100)&&(decide (f.2.2.2.1.length≤20)&&(decide (f.2.2.2.2.1.length≤210)&&(decide (f.2.2.2.2.2.1.length≤210)&&(decide (f.2.2.2.2.2.2.1.length≤210)&&(decide (n≤1000)&&f.2.2.2.1.all fun s=>decide (s.1.length≤100))))))
theorem gt_dec {α:Type} (l:List α) (k:Nat):decide ((l.length:Int) > (k:Int))=!decide (l.length≤k):=by
 by_cases h:l.length≤k
 ·rw [decide_eq_true h,decide_eq_false (by omega)];rfl
 ·rw [decide_eq_false h,decide_eq_true (by omega)];rfl
theorem rGreatI_eq (m:Img):∃ b,cref09_Great m=some b∧(b=false→ImgG m):=by
 show ∃ b,nref09_Great (iterV (gref09_Great_0 big) big) m=some b∧_
 unfold nref09_Great
 obtain ⟨b,h1,h2⟩:=K.rGreat_eq m.1
 rw [h1,Option.bind_some]
 cases b with
 | true=>exact ⟨true,rfl,fun h=>by cases h⟩
 | false=>
  rw [cond_false]
  by_cases ht:m.2.1.length≤40
  ·rw [decide_eq_false (by omega),cond_false]
   by_cases hf:m.2.2.1.length≤40
   ·rw [decide_eq_false (by omega),cond_false]
    have slots:∀ (self0 self1) (n:Int) (i:Nat) (f:Fun),f.2.2.2.1.length≤20→i < m.2.2.1.length→iterV (gref09_Great_2 big self0 self1) big (n,(i:Int),0,m,f)=bif f.2.2.2.1.all (fun s=>decide (s.1.length≤100)) then self1 (n,((i+1:Nat):Int),m) else some true:=by
     intro self0 self1 n i f hl hi
     have:=loop_all (g:=gref09_Great_2 big self0 self1) (mk:=fun k=>(n,(i:Int),(k:Int),m,f)) (p:=fun k=>(f.2.2.2.1[k]?).all fun s=>decide (s.1.length≤100)) (no:=some true) (kk:=self1 (n,((i+1:Nat):Int),m)) (n:=f.2.2.2.1.length)
      (fun self k hk=>by
       rw [pat hk]
       simp only [gref09_Great_2,href09_Great_2,lt_t hk,cond_true,gI hk,Option.bind_some,wS hk (by omega),gt_dec _ 100,bif_not,show (100:Int)=((100:Nat):Int) from rfl])
      (fun self=>by simp only [gref09_Great_2,href09_Great_2,lt_f,cond_false,wS hi (by omega)]) f.2.2.2.1.length 0 big (by omega) (bbig (by omega))
     rw [lall] at this
     exact this
    have fns:∀ self0,iterV (gref09_Great_1 big self0) big (0,0,m)=bif (List.range' 0 m.2.2.1.length).all (fun i=>(m.2.2.1[i]?).all fun f=>gB f (nS m.2.2.1 (i+1))) then some false else some true:=by
     intro self0
     exact loop_all (g:=gref09_Great_1 big self0) (mk:=fun i=>(nS m.2.2.1 i,(i:Int),m)) (p:=fun i=>(m.2.2.1[i]?).all fun f=>gB f (nS m.2.2.1 (i+1))) (no:=some true) (kk:=some false) (n:=m.2.2.1.length)
      (fun self i hi=>by
       rw [pat hi]
       have e:IntKind.i64.wrap (nS m.2.2.1 i+((m.2.2.1[i]).2.2.2.2.1.length:Int))=nS m.2.2.1 (i+1):=by simp [nS,hi]
       simp only [gref09_Great_1,href09_Great_1,lt_t hi,cond_true,gI hi,Option.bind_some,e]
       unfold gB
       generalize nS m.2.2.1 (i+1)=n
       by_cases a1:(m.2.2.1[i]).1.length≤100
       ·rw [decide_eq_true a1,decide_eq_false (show ¬ (((m.2.2.1[i]).1.length:Int) > 100) by omega),cond_false,Bool.true_and]
        by_cases a2:(m.2.2.1[i]).2.2.2.1.length≤20
        ·rw [decide_eq_true a2,decide_eq_false (show ¬ (((m.2.2.1[i]).2.2.2.1.length:Int) > 20) by omega),cond_false,Bool.true_and]
         by_cases a3:(m.2.2.1[i]).2.2.2.2.1.length≤210
         ·rw [decide_eq_true a3,decide_eq_false (show ¬ (((m.2.2.1[i]).2.2.2.2.1.length:Int) > 210) by omega),cond_false,Bool.true_and]
          by_cases a4:(m.2.2.1[i]).2.2.2.2.2.1.length≤210
          ·rw [decide_eq_true a4,decide_eq_false (show ¬ (((m.2.2.1[i]).2.2.2.2.2.1.length:Int) > 210) by omega),cond_false,Bool.true_and]
           by_cases a5:(m.2.2.1[i]).2.2.2.2.2.2.1.length≤210
           ·rw [decide_eq_true a5,decide_eq_false (show ¬ (((m.2.2.1[i]).2.2.2.2.2.2.1.length:Int) > 210) by omega),cond_false,Bool.true_and]
            by_cases a6:n≤1000
            ·rw [decide_eq_true a6,decide_eq_false (show ¬ n > 1000 by omega),cond_false,Bool.true_and]
             exact slots _ _ _ _ _ a2 hi
            ·rw [decide_eq_false a6,decide_eq_true (show n > 1000 by omega)];rfl
           ·rw [decide_eq_false a5,decide_eq_true (show ((m.2.2.1[i]).2.2.2.2.2.2.1.length:Int) > 210 by omega)];rfl
          ·rw [decide_eq_false a4,decide_eq_true (show ((m.2.2.1[i]).2.2.2.2.2.1.length:Int) > 210 by omega)];rfl
         ·rw [decide_eq_false a3,decide_eq_true (show ((m.2.2.1[i]).2.2.2.2.1.length:Int) > 210 by omega)];rfl
        ·rw [decide_eq_false a2,decide_eq_true (show ((m.2.2.1[i]).2.2.2.1.length:Int) > 20 by omega)];rfl
       ·rw [decide_eq_false a1,decide_eq_true (show ((m.2.2.1[i]).1.length:Int) > 100 by omega)];rfl)
      (fun self=>by simp only [gref09_Great_1,href09_Great_1,lt_f,cond_false]) m.2.2.1.length 0 big (by omega) (bbig (by omega))
    have:=loop_all (g:=gref09_Great_0 big) (mk:=fun i=>((i:Int),m)) (p:=fun i=>(m.2.1[i]?).all fun s=>decide (s.length≤100)) (no:=some true) (kk:=bif (List.range' 0 m.2.2.1.length).all (fun i=>(m.2.2.1[i]?).all fun f=>gB f (nS m.2.2.1 (i+1))) then some false else some true) (n:=m.2.1.length)
     (fun self i hi=>by
      rw [pat hi]
      simp only [gref09_Great_0,href09_Great_0,lt_t hi,cond_true,gI hi,Option.bind_some,wS hi (by omega),gt_dec _ 100,bif_not,show (100:Int)=((100:Nat):Int) from rfl])
     (fun self=>by
      simp only [gref09_Great_0,href09_Great_0,lt_f,cond_false]
      exact fns _) m.2.1.length 0 big (by omega) (bbig (by omega))
    rw [lall] at this
    refine ⟨!(m.2.1.all (fun s=>decide (s.length≤100))&&(List.range' 0 m.2.2.1.length).all (fun i=>(m.2.2.1[i]?).all fun f=>gB f (nS m.2.2.1 (i+1)))),this.trans ?_,?_⟩
    ·cases m.2.1.all (fun s=>decide (s.length≤100)) <;> cases (List.range' 0 m.2.2.1.length).all (fun i=>(m.2.2.1[i]?).all fun f=>gB f (nS m.2.2.1 (i+1))) <;> rfl
    ·intro h
     rw [Bool.not_eq_false',Bool.and_eq_true] at h
     refine ⟨h2 rfl,ht,hf,fun f hfm=>?_⟩
     obtain ⟨i,hi,rfl⟩:=List.mem_iff_getElem.1 hfm
     have:=all_at h.2 hi
     rw [pat hi] at this
     simp only [gB,Bool.and_eq_true,decide_eq_true_eq] at this
     exact ⟨this.1,this.2.1,this.2.2.1,this.2.2.2.1,this.2.2.2.2.1⟩
   ·exact ⟨true,by rw [decide_eq_true (by omega)];rfl,fun h=>by cases h⟩
  ·exact ⟨true,by rw [decide_eq_true (by omega)];rfl,fun h=>by cases h⟩
def Op8 (l:List Ins):Prop:=∀ x∈l,0≤x.1∧x.1≤255
structure ImgAll (m:Img):Prop where
 ty:m.1.length≤1000000∧∀ t∈m.1,t.2.2.2.1.length≤1000
 fn:∀ f∈m.2.2.1,Op8 f.2.2.2.2.1∧f.2.2.2.2.2.1.length≤1000000∧f.2.2.2.2.2.2.1.length≤1000000
 mem:ImgM m
theorem ImgAll.l {m:Img} (h:ImgAll m):ImgL m:=⟨h.ty.1,fun f hf=>(h.fn f hf).2,h.mem⟩
theorem chk_ok {m:Img} (h:chk m=0):okImg m=true∧(codeI m).length≤20000:=by
 unfold chk at h
 split at h
 ·rename_i hv
  split at h
  ·omega
  ·exact ⟨hv,by omega⟩
 ·omega
def At (bs:List Int) (a:Nat) (c:List Int):Prop:=a≤bs.length∧∃ r,bs.drop a=c++r
theorem At.le {bs:List Int} {a:Nat} {c:List Int} (h:At bs a c):a+c.length≤bs.length:=by
 obtain ⟨h0,r,h⟩:=h
 have:=congrArg List.length h
 rw [List.length_drop,List.length_append] at this
 omega
theorem at_append {bs:List Int} {a:Nat} {c d:List Int}:At bs a (c++d)↔At bs a c∧At bs (a+c.length) d:=by
 constructor
 ·intro h
  have hl:=h.le
  rw [List.length_append] at hl
  obtain ⟨h0,r,h⟩:=h
  refine ⟨⟨h0,d++r,by rw [h,List.append_assoc]⟩,by omega,r,?_⟩
  rw [← List.drop_drop,h,List.append_assoc,List.drop_left]
 ·rintro ⟨⟨h0,r,h⟩,h1,q,h2⟩
  refine ⟨h0,q,?_⟩
  rw [← List.drop_drop,h,List.drop_left] at h2
  rw [h,h2,List.append_assoc]
theorem at_nil {bs:List Int} {a:Nat} (h:a≤bs.length):At bs a []:=⟨h,_,rfl⟩
theorem at_take {bs:List Int} {a n:Nat} (h:a+n≤bs.length):At bs a ((bs.drop a).take n):=⟨by omega,(bs.drop a).drop n,(List.take_append_drop _ _).symm⟩
theorem at_all {bs:List Int}:At bs 0 bs:=⟨by omega,[],by simp⟩
theorem at_eq {bs c:List Int} (h:At bs 0 c) (hl:c.length=bs.length):c=bs:=by
 obtain ⟨_,r,h⟩:=h
 rw [List.drop_zero] at h
 have:=congrArg List.length h
 rw [List.length_append] at this
 have:r=[]:=List.eq_nil_of_length_eq_zero (by omega)
 rw [h,this,List.append_nil]
structure Lm where
 (ty el ln fl nm ft tx te fn pa sl co:Nat)
structure LmOk (L:Lm):Prop where
 ty:32≤L.ty
 el:32≤L.el
 ln:16≤L.ln
 fl:8≤L.fl
 nm:16≤L.nm
 ft:32≤L.ft
 tx:32≤L.tx
 te:64≤L.te
 fn:32≤L.fn
 pa:16≤L.pa
 sl:16≤L.sl
 co:200≤L.co
abbrev Pr (α:Type):=Nat→Option (Nat×α)
def pNum (bs:List Int) (k:Nat):Pr Int:=fun a=>if (rd 10 0 (bs.drop a)).2.2=0∧(rd 10 0 (bs.drop a)).1≤k then some (a+(rd 10 0 (bs.drop a)).2.1,((rd 10 0 (bs.drop a)).1:Int)) else none
def pSgn (bs:List Int):Pr Int:=fun a=>if (rd 10 0 (bs.drop a)).2.2=0 then some (a+(rd 10 0 (bs.drop a)).2.1,half (rd 10 0 (bs.drop a)).1) else none
def pSaid (bs:List Int) (k:Nat):Pr (List Int):=fun a=>(pNum bs k a).bind fun x=>if x.1+x.2.toNat≤bs.length then some (x.1+x.2.toNat,(bs.drop x.1).take x.2.toNat) else none
def pByte (bs:List Int):Pr Int:=fun a=>(bs[a]?).map fun b=>(a+1,b)
def pIns (bs:List Int):Pr Ins:=fun a=>if (decAt bs a).2.2=0 then some ((decAt bs a).1.2.1.toNat,(decAt bs a).2.1) else none
def pRuns (bs:List Int) (n:Nat):Pr (List T.Rn):=fun a=>if (1≤n∧n≤200)∧(T.decT bs a n).2.2=0 then some ((T.decT bs a n).1.2.1.toNat,(T.decT bs a n).2.1) else none
def pFld (bs:List Int) (L:Lm):Pr K.Fld:=fun a=>(pSaid bs L.nm a).bind fun x=>(pNum bs L.ft x.1).bind fun y=>some (y.1,(x.2,(y.2,())))
def prN {α:Type} (p:Pr α):Nat→Pr (List α)
 | 0=>fun a=>some (a,[])
 | k+1=>fun a=>(p a).bind fun x=>(prN p k x.1).bind fun y=>some (y.1,x.2::y.2)
def pLst {α:Type} (bs:List Int) (k:Nat) (p:Pr α):Pr (List α):=fun a=>(pNum bs k a).bind fun x=>prN p x.2.toNat x.1
def pTyp (bs:List Int) (L:Lm):Pr K.Typ:=fun a=>(pByte bs a).bind fun x=>
 if x.2=4∨x.2=7 then (pNum bs L.el x.1).bind fun y=>some (y.1,(x.2,(y.2,(0,([],())))))
 else if x.2=6 then (pNum bs L.el x.1).bind fun y=>(pNum bs L.ln y.1).bind fun z=>some (z.1,(x.2,(y.2,(z.2,([],())))))
 else if x.2=5 then (pLst bs L.fl (pFld bs L) x.1).bind fun y=>some (y.1,(x.2,(0,(0,(y.2,())))))
 else some (x.1,(x.2,(0,(0,([],())))))
def pFn (bs:List Int) (L:Lm):Pr Fun:=fun a=>(pSaid bs L.nm a).bind fun x=>(pNum bs L.pa x.1).bind fun y=>(pSgn bs y.1).bind fun z=>(pLst bs L.sl (pFld bs L) z.1).bind fun s=>(pLst bs L.co (pIns bs) s.1).bind fun c=>
 (pRuns bs c.2.length c.1).bind fun u=>(pRuns bs c.2.length u.1).bind fun v=>some (v.1,(x.2,(y.2,(z.2,(s.2,(c.2,(u.2,(v.2,()))))))))
def pImg (bs:List Int) (L:Lm):Pr Img:=fun a=>(pLst bs L.ty (pTyp bs L) a).bind fun x=>(pLst bs L.tx (pSaid bs L.te) x.1).bind fun y=>(pLst bs L.fn (pFn bs L) y.1).bind fun z=>some (z.1,(x.2,(y.2,(z.2,()))))
def Rdz {α:Type} (bs:List Int) (p:Pr α) (c:List Int) (v:α):Prop:=∀ a,At bs a c→p a=some (a+c.length,v)
theorem num_rdz (bs:List Int) (k n:Nat) (h:n≤k) (hk:k≤1000000):Rdz bs (pNum bs k) (vary n) (n:Int):=by
 rintro a ⟨h0,r,e⟩
 unfold pNum
 rw [e,rd_of_vary n r (by omega),if_pos ⟨rfl,h⟩]
theorem num_rdz' (bs:List Int) (k:Nat) (n:Int) (h0:0≤n) (h:n≤k) (hk:k≤1000000):Rdz bs (pNum bs k) (vary n.toNat) n:=by
 have:=num_rdz bs k n.toNat (by omega) hk
 rwa [Int.toNat_of_nonneg h0] at this
theorem sgn_rdz (bs:List Int) (n:Int) (h:I64 n):Rdz bs (pSgn bs) (vary (dbl n)) n:=by
 rintro a ⟨h0,r,e⟩
 unfold pSgn
 rw [e,rd_of_vary _ r (dbl_lt h.1 h.2),if_pos rfl,half_dbl]
theorem said_rdz (bs:List Int) (k:Nat) (s:List Int) (h:s.length≤k) (hk:k≤1000000):Rdz bs (pSaid bs k) (said s) s:=by
 intro a ha
 unfold said at *
 obtain ⟨h1,h2⟩:=at_append.1 ha
 unfold pSaid
 rw [num_rdz bs k s.length h hk a h1,Option.bind_some,Int.toNat_natCast,if_pos h2.le]
 obtain ⟨_,r,e⟩:=h2
 simp only [e,List.take_left,List.length_append]
 rw [Nat.add_assoc]
theorem byte_rdz (bs:List Int) (b:Int):Rdz bs (pByte bs) [b] b:=by
 rintro a ⟨h0,r,e⟩
 unfold pByte
 have:bs[a]? = some b:=by
  have:=congrArg (fun l=>l[0]?) e
  simpa using this
 rw [this];rfl
theorem Rdz.bind {α β:Type} {bs:List Int} {p:Pr α} {q:α→Pr β} {c d:List Int} {v:α} {w:β} (h1:Rdz bs p c v) (h2:Rdz bs (q v) d w):Rdz bs (fun a=>(p a).bind fun x=>q x.2 x.1) (c++d) w:=by
 intro a ha
 obtain ⟨g1,g2⟩:=at_append.1 ha
 show (p a).bind _=_
 rw [h1 a g1,Option.bind_some,h2 _ g2,List.length_append,Nat.add_assoc]
theorem Rdz.map {α β:Type} {bs:List Int} {p:Pr α} {c:List Int} {v:α} (f:α→β) (h:Rdz bs p c v):Rdz bs (fun a=>(p a).bind fun x=>some (x.1,f x.2)) c (f v):=by
 intro a ha
 show (p a).bind _=_
 rw [h a ha];rfl
theorem fld_rdz (bs:List Int) (L:Lm) (hL:L.nm≤1000000∧L.ft≤1000000) (f:K.Fld) (h1:f.1.length≤L.nm) (h2:0≤f.2.1∧f.2.1≤L.ft):Rdz bs (pFld bs L) (codeFl f) f:=
 (said_rdz bs L.nm f.1 h1 hL.1).bind (q:=fun s a=>(pNum bs L.ft a).bind fun y=>some (y.1,(s,(y.2,())))) ((num_rdz' bs L.ft f.2.1 h2.1 h2.2 hL.2).map fun n=>(f.1,(n,())))
theorem lst_rdz {α:Type} {bs:List Int} {p:Pr α} {cod:α→List Int}:∀ {l:List α},(∀ x∈l,Rdz bs p (cod x) x)→Rdz bs (prN p l.length) (l.flatMap cod) l
 | [],_=>fun a _=>rfl
 | x::r,h=>by
  rw [List.flatMap_cons]
  exact (h x (by simp)).bind (q:=fun v a=>(prN p r.length a).bind fun y=>some (y.1,v::y.2)) ((lst_rdz fun y hy=>h y (by simp [hy])).map fun l=>x::l)
theorem pLst_rdz {α:Type} {bs:List Int} {p:Pr α} {cod:α→List Int} {k:Nat} {l:List α} (hl:l.length≤k) (hk:k≤1000000) (h:∀ x∈l,Rdz bs p (cod x) x):Rdz bs (pLst bs k p) (vary l.length++l.flatMap cod) l:=
 (num_rdz bs k l.length hl hk).bind (q:=fun (n:Int)=>prN p n.toNat) (by rw [Int.toNat_natCast];exact lst_rdz h)
theorem rdL_shift (bs:List Int) (a:Nat):∀ (rs:List Int) (c:Nat),rdL bs rs (a+c)=((rdL (bs.drop a) rs c).1,a+(rdL (bs.drop a) rs c).2.1,(rdL (bs.drop a) rs c).2.2)∨((rdL bs rs (a+c)).1=(rdL (bs.drop a) rs c).1∧(rdL bs rs (a+c)).1≠0)
 | [],c=>.inl rfl
 | r::rs,c=>by
  simp only [rdL,List.drop_drop]
  split
  ·rcases rdL_shift bs a rs c with h | h
   ·left;rw [h]
   ·right;exact h
  ·split
   ·rename_i h0
    have:=rdL_shift bs a rs (c+(rd 10 0 (bs.drop (a+c))).2.1)
    rw [← Nat.add_assoc] at this
    rcases this with h | h
    ·left;rw [h]
    ·right;exact h
   ·rename_i h0
    right
    exact ⟨rfl,h0⟩
theorem decAt_shift {bs:List Int} {a:Nat}:(decAt bs a).2.2=(decAt (bs.drop a) 0).2.2∧((decAt bs a).2.2=0→(decAt bs a).2.1=(decAt (bs.drop a) 0).2.1∧(decAt bs a).1=(bs,(((a+(decAt (bs.drop a) 0).1.2.1.toNat:Nat):Int),()))):=by
 unfold decAt
 rw [List.getElem?_drop,Nat.add_zero]
 cases h:bs[a]? with
 | none=>exact ⟨rfl,fun h=>by cases h⟩
 | some o=>
  dsimp only
  split
  ·have hs:=rdL_shift bs a (rol o) 1
   rw [show 0+1=1 from rfl]
   unfold decEnd
   rcases hs with e | ⟨e1,e2⟩
   ·rw [e]
    dsimp only
    split
    ·exact ⟨rfl,fun h=>by rename_i h0;exact absurd h h0⟩
    ·split
     ·refine ⟨rfl,fun _=>⟨rfl,?_⟩⟩
      simp
     ·exact ⟨rfl,fun h=>by cases h⟩
   ·rw [if_pos e2,if_pos (e1 ▸ e2)]
    exact ⟨e1,fun h=>absurd h e2⟩
  ·exact ⟨rfl,fun h=>by cases h⟩
theorem rdP_shift (bs:List Int) (a:Nat):∀ (k c:Nat),T.rdP bs k (a+c)=((T.rdP (bs.drop a) k c).1,a+(T.rdP (bs.drop a) k c).2.1,(T.rdP (bs.drop a) k c).2.2)∨((T.rdP bs k (a+c)).1=(T.rdP (bs.drop a) k c).1∧(T.rdP bs k (a+c)).1≠0)
 | 0,c=>.inl rfl
 | k+1,c=>by
  simp only [T.rdP,List.drop_drop]
  rw [← Nat.add_assoc]
  split
  ·split
   ·have:=rdP_shift bs a k (c+(rd 10 0 (bs.drop (a+c))).2.1+(rd 10 0 (bs.drop (a+c+(rd 10 0 (bs.drop (a+c))).2.1))).2.1)
    simp only [← Nat.add_assoc] at this
    rcases this with h | h
    ·left;rw [h]
    ·right;exact h
   ·rename_i h0;right;exact ⟨rfl,h0⟩
  ·rename_i h0;right;exact ⟨rfl,h0⟩
theorem decT_shift {bs:List Int} {a:Nat} {n:Int}:(T.decT bs a n).2.2=(T.decT (bs.drop a) 0 n).2.2∧((T.decT bs a n).2.2=0→(T.decT bs a n).2.1=(T.decT (bs.drop a) 0 n).2.1∧(T.decT bs a n).1=(bs,(((a+(T.decT (bs.drop a) 0 n).1.2.1.toNat:Nat):Int),()))):=by
 unfold T.decT
 simp only [List.drop_zero,Nat.zero_add]
 split
 ·rename_i h0;exact ⟨rfl,fun h=>absurd h h0⟩
 split
 ·exact ⟨rfl,fun h=>by cases h⟩
 unfold T.decF
 rcases rdP_shift bs a (rd 10 0 (bs.drop a)).1 (rd 10 0 (bs.drop a)).2.1 with e | ⟨e1,e2⟩
 ·rw [e]
  dsimp only
  split
  ·rename_i h0;exact ⟨rfl,fun h=>absurd h h0⟩
  ·split
   ·exact ⟨rfl,fun _=>⟨rfl,by simp⟩⟩
   ·exact ⟨rfl,fun h=>by cases h⟩
 ·rw [if_pos e2,if_pos (e1 ▸ e2)]
  exact ⟨e1,fun h=>absurd h e2⟩
theorem ins_rdz (bs:List Int) (x:Ins) (h:okI x=true) (w:WfI x):Rdz bs (pIns bs) (enc x) x:=by
 rintro a ⟨h0,r,e⟩
 have:=dec_enc h w r
 rw [← e] at this
 obtain ⟨s1,s2⟩:=decAt_shift (bs:=bs) (a:=a)
 rw [this] at s1 s2
 obtain ⟨s3,s4⟩:=s2 s1
 unfold pIns
 rw [if_pos s1,s3,s4]
 simp
 omega
theorem runs_rdz (bs:List Int) (l:List T.Rn) (n:Nat) (h:T.checkR l n=0) (v:T.V64 l):Rdz bs (pRuns bs n) (T.codedR l) l:=by
 rintro a ⟨h0,r,e⟩
 obtain ⟨⟨h1,h2⟩,h3⟩:=T.checkR_zero.1 h
 have:=T.dec_coded h3 (by omega) h2 v r
 rw [← e] at this
 obtain ⟨s1,s2⟩:=decT_shift (bs:=bs) (a:=a) (n:=(n:Int))
 rw [this] at s1 s2
 obtain ⟨s3,s4⟩:=s2 s1
 unfold pRuns
 rw [if_pos ⟨⟨by omega,by omega⟩,s1⟩,s3,s4]
 simp
 omega
structure TypL (L:Lm) (t:K.Typ):Prop where
 k:t.1=4∨t.1=7→(0≤t.2.1∧t.2.1≤L.el)∧t.2.2.1=0∧t.2.2.2.1=[]
 a:t.1=6→(0≤t.2.1∧t.2.1≤L.el)∧(0≤t.2.2.1∧t.2.2.1≤L.ln)∧t.2.2.2.1=[]
 s:t.1=5→t.2.1=0∧t.2.2.1=0∧t.2.2.2.1.length≤L.fl∧∀ f∈t.2.2.2.1,f.1.length≤L.nm∧0≤f.2.1∧f.2.1≤L.ft
 o:¬ (t.1=4∨t.1=7)→t.1≠6→t.1≠5→t.2.1=0∧t.2.2.1=0∧t.2.2.2.1=[]
structure LmB (L:Lm):Prop where
 el:L.el≤1000000
 ln:L.ln≤1000000
 fl:L.fl≤1000000
 nm:L.nm≤1000000
 ft:L.ft≤1000000
 ty:L.ty≤1000000
 tx:L.tx≤1000000
 te:L.te≤200000
 fn:L.fn≤1000000
 pa:L.pa≤1000000
 sl:L.sl≤1000000
 co:L.co≤1000000
theorem typ_rdz (bs:List Int) (L:Lm) (hL:LmB L) (t:K.Typ) (h:TypL L t):Rdz bs (pTyp bs L) (codeT t) t:=by
 have hc:codeT t=[t.1]++tailT t:=rfl
 rw [hc]
 refine (byte_rdz bs t.1).bind (q:=fun o a=>if o=4∨o=7 then (pNum bs L.el a).bind fun y=>some (y.1,(o,(y.2,(0,([],())))))
  else if o=6 then (pNum bs L.el a).bind fun y=>(pNum bs L.ln y.1).bind fun z=>some (z.1,(o,(y.2,(z.2,([],())))))
  else if o=5 then (pLst bs L.fl (pFld bs L) a).bind fun y=>some (y.1,(o,(0,(0,(y.2,())))))
  else some (a,(o,(0,(0,([],())))))) ?_
 obtain ⟨t1,t2,t3,t4,u⟩:=t
 unfold tailT
 dsimp only
 by_cases c1:t1=4∨t1=7
 ·obtain ⟨⟨g1,g2⟩,g3,g4⟩:=h.k c1
  dsimp only at g1 g2 g3 g4
  subst g3 g4
  simp only [if_pos c1]
  exact (num_rdz' bs L.el t2 g1 g2 hL.el).map fun y=>(t1,(y,(0,([],()))))
 ·simp only [if_neg c1]
  by_cases c2:t1=6
  ·obtain ⟨⟨g1,g2⟩,⟨g3,g5⟩,g4⟩:=h.a c2
   dsimp only at g1 g2 g3 g4 g5
   subst g4
   simp only [if_pos c2]
   exact (num_rdz' bs L.el t2 g1 g2 hL.el).bind (q:=fun v a=>(pNum bs L.ln a).bind fun z=>some (z.1,(t1,(v,(z.2,([],())))))) ((num_rdz' bs L.ln t3 g3 g5 hL.ln).map fun z=>(t1,(t2,(z,([],())))))
  ·simp only [if_neg c2]
   by_cases c3:t1=5
   ·obtain ⟨g1,g2,g3,g4⟩:=h.s c3
    dsimp only at g1 g2 g3 g4
    subst g1 g2
    simp only [if_pos c3]
    exact (pLst_rdz g3 hL.fl fun f hf=>fld_rdz bs L ⟨hL.nm,hL.ft⟩ f (g4 f hf).1 (g4 f hf).2).map fun y=>(t1,(0,(0,(y,()))))
   ·obtain ⟨g1,g2,g3⟩:=h.o c1 c2 c3
    dsimp only at g1 g2 g3
    subst g1 g2 g3
    simp only [if_neg c3]
    intro a ha
    rfl
structure FunL (L:Lm) (f:Fun):Prop where
 nm:f.1.length≤L.nm
 pa:0≤f.2.1∧f.2.1≤L.pa
 res:I64 f.2.2.1
 sl:f.2.2.2.1.length≤L.sl∧∀ x∈f.2.2.2.1,x.1.length≤L.nm∧0≤x.2.1∧x.2.1≤L.ft
 co:f.2.2.2.2.1.length≤L.co∧∀ x∈f.2.2.2.2.1,okI x=true∧WfI x
 s1:T.V64 f.2.2.2.2.2.1∧T.checkR f.2.2.2.2.2.1 f.2.2.2.2.1.length=0
 s2:T.V64 f.2.2.2.2.2.2.1∧T.checkR f.2.2.2.2.2.2.1 f.2.2.2.2.1.length=0
theorem fun_rdz (bs:List Int) (L:Lm) (hL:LmB L) (f:Fun) (h:FunL L f):Rdz bs (pFn bs L) (codeFn f) f:=by
 obtain ⟨n,p,r,s,c,u,v,e⟩:=f
 obtain ⟨h1,h2,h3,h4,h5,h6,h7⟩:=h
 dsimp only at h1 h2 h3 h4 h5 h6 h7
 unfold codeFn codeFs
 rw [List.append_assoc]
 refine (said_rdz bs L.nm n h1 hL.nm).bind (q:=fun n a=>(pNum bs L.pa a).bind fun y=>(pSgn bs y.1).bind fun z=>(pLst bs L.sl (pFld bs L) z.1).bind fun s=>(pLst bs L.co (pIns bs) s.1).bind fun c=>(pRuns bs c.2.length c.1).bind fun u=>(pRuns bs c.2.length u.1).bind fun v=>some (v.1,(n,(y.2,(z.2,(s.2,(c.2,(u.2,(v.2,()))))))))) ?_
 refine (num_rdz' bs L.pa p h2.1 h2.2 hL.pa).bind (q:=fun p a=>(pSgn bs a).bind fun z=>(pLst bs L.sl (pFld bs L) z.1).bind fun s=>(pLst bs L.co (pIns bs) s.1).bind fun c=>(pRuns bs c.2.length c.1).bind fun u=>(pRuns bs c.2.length u.1).bind fun v=>some (v.1,(n,(p,(z.2,(s.2,(c.2,(u.2,(v.2,()))))))))) ?_
 refine (sgn_rdz bs r h3).bind (q:=fun r a=>(pLst bs L.sl (pFld bs L) a).bind fun s=>(pLst bs L.co (pIns bs) s.1).bind fun c=>(pRuns bs c.2.length c.1).bind fun u=>(pRuns bs c.2.length u.1).bind fun v=>some (v.1,(n,(p,(r,(s.2,(c.2,(u.2,(v.2,()))))))))) ?_
 rw [← List.append_assoc]
 refine (pLst_rdz h4.1 hL.sl fun x hx=>fld_rdz bs L ⟨hL.nm,hL.ft⟩ x (h4.2 x hx).1 (h4.2 x hx).2).bind (q:=fun s a=>(pLst bs L.co (pIns bs) a).bind fun c=>(pRuns bs c.2.length c.1).bind fun u=>(pRuns bs c.2.length u.1).bind fun v=>some (v.1,(n,(p,(r,(s,(c.2,(u.2,(v.2,()))))))))) ?_
 rw [← List.append_assoc]
 refine (pLst_rdz h5.1 hL.co fun x hx=>ins_rdz bs x (h5.2 x hx).1 (h5.2 x hx).2).bind (q:=fun c a=>(pRuns bs c.length a).bind fun u=>(pRuns bs c.length u.1).bind fun v=>some (v.1,(n,(p,(r,(s,(c,(u.2,(v.2,()))))))))) ?_
 exact (runs_rdz bs u c.length h6.2 h6.1).bind (q:=fun u a=>(pRuns bs c.length a).bind fun v=>some (v.1,(n,(p,(r,(s,(c,(u,(v.2,())))))))))  ((runs_rdz bs v c.length h7.2 h7.1).map fun v=>(n,(p,(r,(s,(c,(u,(v,()))))))))
structure ImgLm (L:Lm) (m:Img):Prop where
 ty:m.1.length≤L.ty∧∀ t∈m.1,TypL L t
 tx:m.2.1.length≤L.tx∧∀ s∈m.2.1,s.length≤L.te
 fn:m.2.2.1.length≤L.fn∧∀ f∈m.2.2.1,FunL L f
theorem img_rdz (bs:List Int) (L:Lm) (hL:LmB L) (m:Img) (h:ImgLm L m):Rdz bs (pImg bs L) (codeI m) m:=by
 obtain ⟨t,x,f,e⟩:=m
 obtain ⟨h1,h2,h3⟩:=h
 dsimp only at h1 h2 h3
 unfold codeI
 rw [← List.append_assoc]
 refine (pLst_rdz h1.1 hL.ty fun y hy=>typ_rdz bs L hL y (h1.2 y hy)).bind (q:=fun t a=>(pLst bs L.tx (pSaid bs L.te) a).bind fun y=>(pLst bs L.fn (pFn bs L) y.1).bind fun z=>some (z.1,(t,(y.2,(z.2,()))))) ?_
 rw [← List.append_assoc]
 refine (pLst_rdz h2.1 hL.tx fun y hy=>said_rdz bs L.te y (h2.2 y hy) (by have:=hL.te;omega)).bind (q:=fun x a=>(pLst bs L.fn (pFn bs L) a).bind fun z=>some (z.1,(t,(x,(z.2,()))))) ?_
 exact (pLst_rdz h3.1 hL.fn fun y hy=>fun_rdz bs L hL y (h3.2 y hy)).map fun z=>(t,(x,(z,())))
theorem ok_lim {L:Lm} (hL:LmOk L) {m:Img} (h:okImg m=true) (w:ImgM m):ImgLm L m:=by
 simp only [okImg,okTypes,okTexts,okFuncs,Bool.and_eq_true,decide_eq_true_eq,List.all_eq_true] at h
 obtain ⟨⟨⟨h1,h2,_⟩,_⟩,⟨h3,h4⟩,h5,h6,h7,h8⟩:=h
 have hn:=(names_ok h8).1
 refine ⟨⟨by have:=hL.ty;omega,fun t ht=>?_⟩,⟨by have:=hL.tx;omega,fun s hs=>by have:=h4 s hs;have:=hL.te;omega⟩,by have:=hL.fn;omega,fun f hf=>?_⟩
 ·obtain ⟨i,hi,rfl⟩:=List.mem_iff_getElem.1 ht
  have hb:=h2 i hi
  generalize m.1[i]=t at hb
  have hel:=hL.el
  have hln:=hL.ln
  have hfl:=hL.fl
  have hnm:=hL.nm
  have hft:=hL.ft
  unfold K.builtB at hb
  refine ⟨fun c=>?_,fun c=>?_,fun c=>?_,fun c1 c2 c3=>?_⟩
  ·rw [if_neg (by omega),if_pos c] at hb
   simp only [Bool.and_eq_true,decide_eq_true_eq,K.idxB_iff] at hb
   exact ⟨⟨hb.1.1,by omega⟩,hb.2.1,List.eq_nil_of_length_eq_zero hb.2.2⟩
  ·rw [if_neg (by omega),if_neg (by omega),if_pos c] at hb
   simp only [Bool.and_eq_true,decide_eq_true_eq,K.idxB_iff] at hb
   exact ⟨⟨hb.1.1,by omega⟩,⟨by omega,by omega⟩,List.eq_nil_of_length_eq_zero hb.2.2⟩
  ·rw [if_neg (by omega),if_neg (by omega),if_neg (by omega),if_pos c] at hb
   simp only [Bool.and_eq_true,decide_eq_true_eq,K.areB,List.all_eq_true,K.idxB_iff] at hb
   obtain ⟨g1,g2,g3,g4,g5,g6⟩:=hb
   exact ⟨g1,g2,by omega,fun f hf=>⟨by have:=named_len (g4 f hf);omega,(g6 f hf).1,by have:=(g6 f hf).2;omega⟩⟩
  ·split at hb
   ·simp only [Bool.and_eq_true,decide_eq_true_eq] at hb
    exact ⟨hb.1,hb.2.1,List.eq_nil_of_length_eq_zero hb.2.2⟩
   ·cases hb
 ·have hk:=h7 f hf
  simp only [okF,codeB,slotsB,Bool.and_eq_true,decide_eq_true_eq,Bool.or_eq_true,List.all_eq_true,K.idxB_iff] at hk
  obtain ⟨⟨a1,a2,a3⟩,b1,b2,b3,⟨c1,c2,c3⟩,d1,d2⟩:=hk
  have hs:=(names_ok a3).1
  have hw:=w f hf
  have h16:=hn _ (List.mem_map_of_mem (f:=(·.1)) hf)
  have hnm:=hL.nm
  have hpa:=hL.pa
  have hsl:=hL.sl
  have hft:=hL.ft
  have hco:=hL.co
  exact ⟨by omega,⟨b1,by omega⟩,hw.res,⟨by omega,fun x hx=>⟨by have:=hs _ (List.mem_map_of_mem (f:=(·.1)) hx);omega,(a2 x hx).1,by have:=(a2 x hx).2;omega⟩⟩,⟨by omega,fun x hx=>⟨c3 x hx,hw.code x hx⟩⟩,⟨hw.s1,d1⟩,⟨hw.s2,d2⟩⟩
def Snd {α:Type} (bs:List Int) (p:Pr α) (cod:α→List Int) (Q:α→Prop):Prop:=∀ a b v,a≤bs.length→p a=some (b,v)→At bs a (cod v)∧b=a+(cod v).length∧Q v
theorem Snd.mono {α:Type} {bs:List Int} {p:Pr α} {cod:α→List Int} {Q R:α→Prop} (h:Snd bs p cod Q) (hq:∀ v,Q v→R v):Snd bs p cod R:=fun a b v ha hp=>by
 obtain ⟨h1,h2,h3⟩:=h a b v ha hp
 exact ⟨h1,h2,hq v h3⟩
theorem rd_at {bs:List Int} (hb:Bytes bs) {a:Nat} (ha:a≤bs.length) (h:(rd 10 0 (bs.drop a)).2.2=0):At bs a (vary (rd 10 0 (bs.drop a)).1)∧(rd 10 0 (bs.drop a)).2.1=(vary (rd 10 0 (bs.drop a)).1).length∧(rd 10 0 (bs.drop a)).1 < 18446744073709551616:=by
 obtain ⟨g1,g2,g3,g4⟩:=rd_good (bytes_drop hb a) h
 rw [List.length_drop] at g2
 refine ⟨by rw [g4];exact at_take (by omega),?_,g1⟩
 rw [g4,List.length_take,List.length_drop]
 omega
theorem num_snd {bs:List Int} (hb:Bytes bs) (k:Nat):Snd bs (pNum bs k) (fun n=>vary n.toNat) (fun n=>0≤n∧n≤k):=by
 intro a b v ha h
 unfold pNum at h
 split at h
 ·rename_i h0
  cases h
  obtain ⟨g1,g2,g3⟩:=rd_at hb ha h0.1
  simp only [Int.toNat_natCast]
  exact ⟨g1,by rw [← g2],by omega,by have:=h0.2;omega⟩
 ·cases h
theorem sgn_snd {bs:List Int} (hb:Bytes bs):Snd bs (pSgn bs) (fun n=>vary (dbl n)) I64:=by
 intro a b v ha h
 unfold pSgn at h
 split at h
 ·rename_i h0
  cases h
  obtain ⟨g1,g2,g3⟩:=rd_at hb ha h0
  simp only [dbl_half]
  exact ⟨g1,by rw [← g2],half_range g3⟩
 ·cases h
theorem said_snd {bs:List Int} (hb:Bytes bs) (k:Nat):Snd bs (pSaid bs k) said (fun s=>s.length≤k∧Bytes s):=by
 intro a b v ha h
 unfold pSaid at h
 obtain ⟨⟨c,n⟩,h1,h⟩:=Option.bind_eq_some_iff.1 h
 obtain ⟨g1,g2,g3,g4⟩:=num_snd hb k a c n ha h1
 dsimp only at h g1 g2
 split at h
 ·rename_i h2
  cases h
  have hl:((bs.drop c).take n.toNat).length=n.toNat:=by rw [List.length_take,List.length_drop];omega
  unfold said
  refine ⟨at_append.2 ⟨by rw [hl];exact g1,?_⟩,?_,by omega,bytes_take (bytes_drop hb c) _⟩
  ·rw [hl,← g2];exact at_take h2
  ·rw [List.length_append,hl];omega
 ·cases h
theorem byte_snd (bs:List Int):Snd bs (pByte bs) (fun b=>[b]) (fun _=>True):=by
 intro a b v ha h
 unfold pByte at h
 cases e:bs[a]? with
 | none=>rw [e] at h;cases h
 | some x=>
  rw [e] at h
  cases h
  obtain ⟨hi,rfl⟩:=List.getElem?_eq_some_iff.1 e
  exact ⟨⟨ha,bs.drop (a+1),List.drop_eq_getElem_cons hi⟩,rfl,trivial⟩
theorem ins_snd {bs:List Int} (hb:Bytes bs):Snd bs (pIns bs) enc (fun x=>okI x=true∧WfI x):=by
 intro a b v ha h
 unfold pIns at h
 split at h
 ·rename_i h0
  cases h
  obtain ⟨s1,s2⟩:=decAt_shift (bs:=bs) (a:=a)
  obtain ⟨s3,s4⟩:=s2 h0
  rw [s1] at h0
  obtain ⟨g1,g2,g3,g4,g5⟩:=dec_good (bytes_drop hb a) h0
  rw [s3,s4]
  rw [List.length_drop] at g3
  have hl:(enc (decAt (bs.drop a) 0).2.1).length=(decAt (bs.drop a) 0).1.2.1.toNat:=by rw [g4,List.length_take,List.length_drop];omega
  refine ⟨by rw [g4];exact at_take (by omega),?_,g1,g5⟩
  rw [hl];simp;omega
 ·cases h
theorem runs_snd {bs:List Int} (hb:Bytes bs) (n:Nat):Snd bs (pRuns bs n) T.codedR (fun l=>T.checkR l n=0∧T.V64 l):=by
 intro a b v ha h
 unfold pRuns at h
 split at h
 ·rename_i h0
  cases h
  obtain ⟨⟨n1,n2⟩,h0⟩:=h0
  obtain ⟨s1,s2⟩:=decT_shift (bs:=bs) (a:=a) (n:=(n:Int))
  obtain ⟨s3,s4⟩:=s2 h0
  rw [s1] at h0
  obtain ⟨g1,g5,g2,g3,g4⟩:=T.dec_good (bytes_drop hb a) (by omega) h0
  rw [s3,s4]
  rw [List.length_drop] at g3
  have hl:(T.codedR (T.decT (bs.drop a) 0 n).2.1).length=(T.decT (bs.drop a) 0 n).1.2.1.toNat:=by rw [g4,List.length_take,List.length_drop];omega
  refine ⟨by rw [g4];exact at_take (by omega),?_,T.checkR_zero.2 ⟨⟨by omega,by omega⟩,g1⟩,g5⟩
  rw [hl];simp;omega
 ·cases h
theorem snd2 {bs:List Int} {a:Nat} {c d:List Int} (h1:At bs a c) (h2:At bs (a+c.length) d):At bs a (c++d):=at_append.2 ⟨h1,h2⟩
theorem fld_snd {bs:List Int} (hb:Bytes bs) (L:Lm):Snd bs (pFld bs L) codeFl (fun _=>True):=by
 intro a b v ha h
 unfold pFld at h
 obtain ⟨⟨c,s⟩,h1,h⟩:=Option.bind_eq_some_iff.1 h
 obtain ⟨⟨d,n⟩,h2,h⟩:=Option.bind_eq_some_iff.1 h
 obtain ⟨g1,g2,g3⟩:=said_snd hb L.nm a c s ha h1
 obtain ⟨k1,k2,k3⟩:=num_snd hb L.ft c d n (by rw [g2];exact g1.le) h2
 cases h
 unfold codeFl
 exact ⟨snd2 g1 (g2 ▸ k1),by rw [List.length_append];dsimp only at k2 ⊢;omega,trivial⟩
theorem prN_snd {α:Type} {bs:List Int} {p:Pr α} {cod:α→List Int} {Q:α→Prop} (hp:Snd bs p cod Q):∀ k,Snd bs (prN p k) (fun l=>l.flatMap cod) (fun l=>l.length=k∧∀ x∈l,Q x)
 | 0=>by
  intro a b v ha h
  cases h
  exact ⟨at_nil ha,rfl,rfl,fun x hx=>by cases hx⟩
 | k+1=>by
  intro a b v ha h
  simp only [prN] at h
  obtain ⟨⟨c,x⟩,h1,h⟩:=Option.bind_eq_some_iff.1 h
  obtain ⟨⟨d,l⟩,h2,h⟩:=Option.bind_eq_some_iff.1 h
  obtain ⟨g1,g2,g3⟩:=hp a c x ha h1
  obtain ⟨k1,k2,k3,k4⟩:=prN_snd hp k c d l (by rw [g2];exact g1.le) h2
  cases h
  dsimp only at k1 k2 ⊢
  rw [List.flatMap_cons]
  refine ⟨snd2 g1 (g2 ▸ k1),by rw [List.length_append];omega,by simp [k3],fun y hy=>?_⟩
  rcases List.mem_cons.1 hy with rfl | hy
  ·exact g3
  ·exact k4 y hy
theorem pLst_snd {α:Type} {bs:List Int} (hb:Bytes bs) {p:Pr α} {cod:α→List Int} {Q:α→Prop} (k:Nat) (hp:Snd bs p cod Q):Snd bs (pLst bs k p) (fun l=>vary l.length++l.flatMap cod) (fun l=>l.length≤k∧∀ x∈l,Q x):=by
 intro a b v ha h
 unfold pLst at h
 obtain ⟨⟨c,n⟩,h1,h⟩:=Option.bind_eq_some_iff.1 h
 obtain ⟨g1,g2,g3⟩:=num_snd hb k a c n ha h1
 obtain ⟨k1,k2,k3,k4⟩:=prN_snd hp n.toNat c b v (by rw [g2];exact g1.le) h
 dsimp only at g1 g2 k1 k2 ⊢
 rw [k3]
 exact ⟨snd2 g1 (g2 ▸ k1),by rw [List.length_append];omega,by omega,k4⟩
theorem typ_snd {bs:List Int} (hb:Bytes bs) (L:Lm):Snd bs (pTyp bs L) codeT (fun t=>t.2.2.2.1.length≤L.fl):=by
 intro a b v ha h
 unfold pTyp at h
 obtain ⟨⟨c,o⟩,h1,h⟩:=Option.bind_eq_some_iff.1 h
 obtain ⟨g1,g2,_⟩:=byte_snd bs a c o ha h1
 have hc:c≤bs.length:=by rw [g2];exact g1.le
 have key:∀ {d:Nat} {t:K.Typ},t.1=o→At bs c (tailT t)→d=c+(tailT t).length→At bs a (codeT t)∧d=a+(codeT t).length:=by
  intro d t e k1 k2
  have:codeT t=[o]++tailT t:=by unfold codeT;rw [e];rfl
  rw [this]
  have g3:c=a+1:=g2
  exact ⟨snd2 g1 (g2 ▸ k1),by simp only [List.length_append,List.length_cons,List.length_nil];omega⟩
 dsimp only at h g1 g2
 split at h
 ·rename_i c1
  obtain ⟨⟨d,n⟩,h2,h⟩:=Option.bind_eq_some_iff.1 h
  obtain ⟨k1,k2,k3⟩:=num_snd hb L.el c d n hc h2
  cases h
  have e:tailT (o,(n,(0,([],()))))=vary n.toNat:=by unfold tailT;rw [if_pos c1]
  obtain ⟨q1,q2⟩:=key (d:=d) (t:=(o,(n,(0,([],()))))) rfl (e ▸ k1) (e ▸ k2)
  exact ⟨q1,q2,by simp⟩
 ·rename_i c1
  split at h
  ·rename_i c2
   obtain ⟨⟨d,n⟩,h2,h⟩:=Option.bind_eq_some_iff.1 h
   obtain ⟨⟨f,l⟩,h3,h⟩:=Option.bind_eq_some_iff.1 h
   obtain ⟨k1,k2,k3⟩:=num_snd hb L.el c d n hc h2
   obtain ⟨l1,l2,l3⟩:=num_snd hb L.ln d f l (by rw [k2];exact k1.le) h3
   cases h
   dsimp only at k1 k2 l1 l2
   have e:tailT (o,(n,(l,([],()))))=vary n.toNat++vary l.toNat:=by unfold tailT;rw [if_neg c1,if_pos c2]
   obtain ⟨q1,q2⟩:=key (d:=f) (t:=(o,(n,(l,([],()))))) rfl (by rw [e];exact snd2 k1 (k2 ▸ l1)) (by rw [e,List.length_append];omega)
   exact ⟨q1,q2,by simp⟩
  ·rename_i c2
   split at h
   ·rename_i c3
    obtain ⟨⟨d,l⟩,h2,h⟩:=Option.bind_eq_some_iff.1 h
    obtain ⟨k1,k2,k3,_⟩:=pLst_snd hb L.fl (fld_snd hb L) c d l hc h2
    cases h
    have e:tailT (o,(0,(0,(l,()))))=codeFs l:=by unfold tailT;rw [if_neg c1,if_neg c2,if_pos c3]
    obtain ⟨q1,q2⟩:=key (d:=d) (t:=(o,(0,(0,(l,()))))) rfl (by rw [e];exact k1) (by rw [e];exact k2)
    exact ⟨q1,q2,k3⟩
   ·rename_i c3
    cases h
    have e:tailT (o,(0,(0,([],()))))=[]:=by unfold tailT;rw [if_neg c1,if_neg c2,if_neg c3]
    obtain ⟨q1,q2⟩:=key (d:=b) (t:=(o,(0,(0,([],()))))) rfl (by rw [e];exact at_nil hc) (by rw [e];rfl)
    exact ⟨q1,q2,by simp⟩
structure FunQ (L:Lm) (f:Fun):Prop where
 mem:FunM f
 op:Op8 f.2.2.2.2.1
 len:f.2.2.2.1.length≤L.sl∧f.2.2.2.2.1.length≤L.co∧f.2.2.2.2.2.1.length≤200∧f.2.2.2.2.2.2.1.length≤200
theorem fun_snd {bs:List Int} (hb:Bytes bs) (L:Lm):Snd bs (pFn bs L) codeFn (FunQ L):=by
 intro a b v ha h
 unfold pFn at h
 obtain ⟨⟨a1,n⟩,h1,h⟩:=Option.bind_eq_some_iff.1 h
 obtain ⟨⟨a2,p⟩,h2,h⟩:=Option.bind_eq_some_iff.1 h
 obtain ⟨⟨a3,r⟩,h3,h⟩:=Option.bind_eq_some_iff.1 h
 obtain ⟨⟨a4,s⟩,h4,h⟩:=Option.bind_eq_some_iff.1 h
 obtain ⟨⟨a5,c⟩,h5,h⟩:=Option.bind_eq_some_iff.1 h
 obtain ⟨⟨a6,u⟩,h6,h⟩:=Option.bind_eq_some_iff.1 h
 obtain ⟨⟨a7,w⟩,h7,h⟩:=Option.bind_eq_some_iff.1 h
 obtain ⟨g1,e1,q1⟩:=said_snd hb _ _ _ _ ha h1
 obtain ⟨g2,e2,q2⟩:=num_snd hb _ _ _ _ (by rw [e1];exact g1.le) h2
 obtain ⟨g3,e3,q3⟩:=sgn_snd hb _ _ _ (by rw [e2];exact g2.le) h3
 obtain ⟨g4,e4,q4⟩:=pLst_snd hb _ (fld_snd hb L) _ _ _ (by rw [e3];exact g3.le) h4
 obtain ⟨g5,e5,q5⟩:=pLst_snd hb _ (ins_snd hb) _ _ _ (by rw [e4];exact g4.le) h5
 obtain ⟨g6,e6,q6⟩:=runs_snd hb _ _ _ _ (by rw [e5];exact g5.le) h6
 obtain ⟨g7,e7,q7⟩:=runs_snd hb _ _ _ _ (by rw [e6];exact g6.le) h7
 cases h
 dsimp only at *
 have e:codeFn (n,(p,(r,(s,(c,(u,(w,())))))))=said n++(vary p.toNat++(vary (dbl r)++((vary s.length++s.flatMap codeFl)++((vary c.length++c.flatMap enc)++(T.codedR u++T.codedR w))))):=by
  unfold codeFn codeFs
  simp only [List.append_assoc]
 rw [e]
 refine ⟨snd2 g1 (e1 ▸ snd2 g2 (e2 ▸ snd2 g3 (e3 ▸ snd2 g4 (e4 ▸ snd2 g5 (e5 ▸ snd2 g6 (e6 ▸ g7)))))),?_,⟨q3,fun x hx=>(q5.2 x hx).2,q6.2,q7.2⟩,fun x hx=>?_,q4.1,q5.1,T.checkR_len q6.1,T.checkR_len q7.1⟩
 ·simp only [List.length_append] at *;omega
 ·have:=(q5.2 x hx).1
  simp only [okI,Bool.and_eq_true] at this
  obtain ⟨k,hk,k1,k2⟩:=op_nat this.1
  rw [hk];omega
structure ImgQ (L:Lm) (m:Img):Prop where
 ty:m.1.length≤L.ty∧∀ t∈m.1,t.2.2.2.1.length≤L.fl
 tx:m.2.1.length≤L.tx
 fn:m.2.2.1.length≤L.fn∧∀ f∈m.2.2.1,FunQ L f
theorem img_snd {bs:List Int} (hb:Bytes bs) (L:Lm):Snd bs (pImg bs L) codeI (ImgQ L):=by
 intro a b v ha h
 unfold pImg at h
 obtain ⟨⟨a1,t⟩,h1,h⟩:=Option.bind_eq_some_iff.1 h
 obtain ⟨⟨a2,x⟩,h2,h⟩:=Option.bind_eq_some_iff.1 h
 obtain ⟨⟨a3,f⟩,h3,h⟩:=Option.bind_eq_some_iff.1 h
 obtain ⟨g1,e1,q1⟩:=pLst_snd hb _ (typ_snd hb L) _ _ _ ha h1
 obtain ⟨g2,e2,q2⟩:=pLst_snd hb _ (said_snd hb L.te) _ _ _ (by rw [e1];exact g1.le) h2
 obtain ⟨g3,e3,q3⟩:=pLst_snd hb _ (fun_snd hb L) _ _ _ (by rw [e2];exact g2.le) h3
 cases h
 dsimp only at *
 have e:codeI (t,(x,(f,())))=(vary t.length++t.flatMap codeT)++((vary x.length++x.flatMap said)++(vary f.length++f.flatMap codeFn)):=by
  unfold codeI
  simp only [List.append_assoc]
 rw [e]
 exact ⟨snd2 g1 (e1 ▸ snd2 g2 (e2 ▸ g3)),by simp only [List.length_append] at *;omega,q1,q2.1,q3⟩
theorem ImgQ.all {L:Lm} (hL:LmB L) (h8:L.fl≤1000) {m:Img} (h:ImgQ L m):ImgAll m∧ImgB m:=by
 have h1:=hL.ty
 have h2:=hL.tx
 have h3:=hL.fn
 have h4:=hL.sl
 have h5:=hL.co
 exact ⟨⟨⟨by have:=h.ty.1;omega,fun t ht=>by have:=h.ty.2 t ht;omega⟩,fun f hf=>⟨(h.fn.2 f hf).op,by have:=(h.fn.2 f hf).len;omega,by have:=(h.fn.2 f hf).len;omega⟩,fun f hf=>(h.fn.2 f hf).mem⟩,
  ⟨by have:=h.ty.1;omega,fun t ht=>by have:=h.ty.2 t ht;omega⟩,by have:=h.tx;omega,by have:=h.fn.1;omega,fun f hf=>⟨by have:=(h.fn.2 f hf).len;omega,by have:=(h.fn.2 f hf).len;omega,by have:=(h.fn.2 f hf).len;omega,by have:=(h.fn.2 f hf).len;omega⟩⟩
abbrev RS:=Cur×(Bool×Unit)
def okS (bs:List Int) (a:Nat):RS:=((bs,((a:Int),())),(false,()))
def Bad (s:RS):Prop:=s.2.1=true∧Bytes s.1.1
def RdC {α β:Type} (bs:List Int) (D:α→Prop) (p:Pr α) (F:RS→Option β) (kk:RS→α→Option β):Prop:=
 (∀ a,a≤bs.length→(∀ b v,p a=some (b,v)→a≤b∧b≤bs.length∧D v∧F (okS bs a)=kk (okS bs b) v)∧(p a=none→∃ s v,Bad s∧D v∧F (okS bs a)=kk s v))∧
 ∀ s,Bad s→∃ s' v,Bad s'∧D v∧F s=kk s' v
abbrev Rd {α:Type} (bs:List Int) (D:α→Prop) (p:Pr α) (f:RS→Option (RS×α)):Prop:=RdC bs D p f fun s v=>some (s,v)
theorem RdC.bind {α β γ:Type} {bs:List Int} {D:α→Prop} {E:β→Prop} {p:Pr α} {q:α→Pr β} {F:RS→Option γ} {k1:RS→α→Option γ} {kk:RS→β→Option γ} (h1:RdC bs D p F k1) (h2:∀ v,D v→RdC bs E (q v) (fun s=>k1 s v) kk) :
  RdC bs E (fun a=>(p a).bind fun x=>q x.2 x.1) F kk:=by
 refine ⟨fun a ha=>?_,fun s hs=>?_⟩
 ·obtain ⟨g1,g2⟩:=h1.1 a ha
  cases hp:p a with
  | none=>
   obtain ⟨s,v,b1,b2,b3⟩:=g2 hp
   obtain ⟨s',w,c1,c2,c3⟩:=(h2 v b2).2 s b1
   exact ⟨fun b w h=>(by simp only [hp,Option.bind_none] at h;cases h),fun _=>⟨s',w,c1,c2,b3.trans c3⟩⟩
  | some x=>
   obtain ⟨b,v⟩:=x
   obtain ⟨b1,b2,b3,b4⟩:=g1 b v hp
   obtain ⟨k1',k2'⟩:=(h2 v b3).1 b b2
   refine ⟨fun c w h=>?_,fun h=>?_⟩ <;> simp only [hp,Option.bind_some] at h
   ·obtain ⟨c1,c2,c3,c4⟩:=k1' c w h
    exact ⟨by omega,c2,c3,b4.trans c4⟩
   ·obtain ⟨s,w,c1,c2,c3⟩:=k2' h
    exact ⟨s,w,c1,c2,b4.trans c3⟩
 ·obtain ⟨s',v,b1,b2,b3⟩:=h1.2 s hs
  obtain ⟨s2,w,c1,c2,c3⟩:=(h2 v b2).2 s' b1
  exact ⟨s2,w,c1,c2,b3.trans c3⟩
theorem Rd.run {α β:Type} {bs:List Int} {D:α→Prop} {p:Pr α} {f:RS→Option (RS×α)} (h:Rd bs D p f) (K:RS×α→Option β):RdC bs D p (fun s=>(f s).bind K) (fun s v=>K (s,v)):=by
 refine ⟨fun a ha=>⟨fun b v hp=>?_,fun hp=>?_⟩,fun s hs=>?_⟩
 ·obtain ⟨g1,g2,g3,g4⟩:=(h.1 a ha).1 b v hp
  exact ⟨g1,g2,g3,(congrArg (fun o=>o.bind K) g4).trans rfl⟩
 ·obtain ⟨s,v,g1,g2,g3⟩:=(h.1 a ha).2 hp
  exact ⟨s,v,g1,g2,(congrArg (fun o=>o.bind K) g3).trans rfl⟩
 ·obtain ⟨s',v,g1,g2,g3⟩:=h.2 s hs
  exact ⟨s',v,g1,g2,(congrArg (fun o=>o.bind K) g3).trans rfl⟩
theorem RdC.pure {α β:Type} {bs:List Int} {D:α→Prop} (v:α) (h:D v) {F:RS→Option β} {kk:RS→α→Option β} (hF:∀ s,F s=kk s v):RdC bs D (fun a=>some (a,v)) F kk:=
 ⟨fun a ha=>⟨fun b w e=>by cases e;exact ⟨by omega,ha,h,hF _⟩,fun e=>by cases e⟩,fun s hs=>⟨s,v,hs,h,hF s⟩⟩
theorem RdC.mono {α β:Type} {bs:List Int} {D E:α→Prop} {p:Pr α} {F:RS→Option β} {kk:RS→α→Option β} (h:RdC bs D p F kk) (hd:∀ v,D v→E v):RdC bs E p F kk:=
 ⟨fun a ha=>⟨fun b v e=>by obtain ⟨g1,g2,g3,g4⟩:=(h.1 a ha).1 b v e;exact ⟨g1,g2,hd v g3,g4⟩,fun e=>by obtain ⟨s,v,g1,g2,g3⟩:=(h.1 a ha).2 e;exact ⟨s,v,g1,hd v g2,g3⟩⟩,fun s hs=>by obtain ⟨s',v,g1,g2,g3⟩:=h.2 s hs;exact ⟨s',v,g1,hd v g2,g3⟩⟩
theorem RdC.ext {α β:Type} {bs:List Int} {D:α→Prop} {p:Pr α} {F G:RS→Option β} {kk:RS→α→Option β} (h:RdC bs D p F kk) (e:∀ s,G s=F s):RdC bs D p G kk:=by
 rw [show G=F from funext e];exact h
def Prim {α γ:Type} (bs:List Int) (D:α→Prop) (p:Pr α) (F:Cur→Option (Cur×γ×Int)) (g:γ→α):Prop:=
 (∀ a,a≤bs.length→∃ r,F (bs,((a:Int),()))=some r∧((∃ b,p a=some (b,g r.2.1)∧r.2.2=0∧r.1=(bs,((b:Int),()))∧a≤b∧b≤bs.length∧D (g r.2.1))∨(p a=none∧r.2.2≠0∧Bytes r.1.1∧D (g r.2.1))))∧
 ∀ c,Bytes c.1→∃ r,F c=some r∧Bytes r.1.1∧D (g r.2.1)
theorem prim_rd {α γ:Type} {bs:List Int} {D:α→Prop} {p:Pr α} {F:Cur→Option (Cur×γ×Int)} {g:γ→α} (h:Prim bs D p F g) {f:RS→Option (RS×α)}
  (hf:∀ s,f s=(F s.1).bind fun x=>bif s.2.1 then some ((x.1,(true,())),g x.2.1) else some ((x.1,((x.2.2 != (0:Int)),())),g x.2.1)):Rd bs D p f:=by
 refine ⟨fun a ha=>?_,fun s hs=>?_⟩
 ·obtain ⟨⟨c,v,e⟩,h1,h2⟩:=h.1 a ha
  have hfa:=hf (okS bs a)
  rw [show (okS bs a).1=(bs,((a:Int),())) from rfl,h1,Option.bind_some,show (okS bs a).2.1=false from rfl,cond_false] at hfa
  dsimp only at h2
  rcases h2 with ⟨b,g1,g2,g3,g4,g5,g6⟩ | ⟨g1,g2,g3,g4⟩
  ·refine ⟨fun b' w hp=>?_,fun hp=>(by rw [g1] at hp;cases hp)⟩
   rw [g1] at hp
   cases hp
   refine ⟨g4,g5,g6,?_⟩
   rw [hfa,g2,g3];rfl
  ·refine ⟨fun b' w hp=>(by rw [g1] at hp;cases hp),fun _=>⟨_,_,?_,g4,hfa⟩⟩
   exact ⟨by simp [g2],g3⟩
 ·obtain ⟨⟨c',v,e⟩,h1,h2,h3⟩:=h.2 s.1 hs.2
  refine ⟨_,_,?_,h3,by rw [hf,h1,Option.bind_some,hs.1,cond_true]⟩
  exact ⟨rfl,h2⟩
theorem zc_bytes:Bytes zc.1:=fun c hc=>by simp [zc] at hc
theorem outc_bytes {bs:List Int} (hb:Bytes bs) (a:Nat) (most:Int) (n p:Nat) (r:Nat×Nat×Int):Bytes (outc bs a most n p r).1.1:=by
 unfold outc
 split
 ·split
  ·exact zc_bytes
  ·exact hb
 ·exact zc_bytes
theorem outc_val {bs:List Int} {a:Nat} {most:Int} {r:Nat×Nat×Int} (hm:0≤most):0≤(outc bs a most 0 0 r).2.1∧(outc bs a most 0 0 r).2.1≤most:=by
 unfold outc
 split
 ·split
  ·exact ⟨by simp,hm⟩
  ·rename_i h;exact ⟨by simp only;omega,by simp only;omega⟩
 ·exact ⟨by simp,hm⟩
theorem num_prim {bs:List Int} (hb:Bytes bs) (hl:bs.length≤200000) (k:Nat) (hk:k≤1000000):Prim bs (fun n:Int=>0≤n∧n≤k) (pNum bs k) (fun c=>cwire_Unvary (c,IntKind.u64.wrap (k:Int))) (fun n:Int=>IntKind.i64.wrap n):=by
 have hw:IntKind.u64.wrap (k:Int)=(k:Int):=by rw [wrap_u64];omega
 have hi:∀ {n:Int},0≤n→n≤k→IntKind.i64.wrap n=n:=fun h1 h2=>T.t64 (by omega) (by omega)
 refine ⟨fun a ha=>?_,fun c hc=>?_⟩
 ·rw [hw]
  dsimp only
  rw [unvary_eq (bs,((a:Int),())) _ hb,if_pos (valid_at hl ha)]
  refine ⟨_,rfl,?_⟩
  dsimp only
  rw [Int.toNat_natCast]
  have hv:=outc_val (bs:=bs) (a:=a) (most:=(k:Int)) (r:=rd 10 0 (bs.drop a)) (by omega)
  rw [hi hv.1 hv.2]
  unfold pNum
  by_cases h:(rd 10 0 (bs.drop a)).2.2=0
  ·obtain ⟨g1,g2,g3⟩:=rd_at hb ha h
   by_cases h2:(rd 10 0 (bs.drop a)).1≤k
   ·have e:outc bs a (k:Int) 0 0 (rd 10 0 (bs.drop a))=((bs,(((a+(rd 10 0 (bs.drop a)).2.1:Nat):Int),())),((rd 10 0 (bs.drop a)).1:Int),0):=by
     unfold outc
     rw [if_pos h,if_neg (by simp;omega)]
     simp
    left
    rw [if_pos ⟨h,h2⟩,e]
    have:=g1.le
    exact ⟨_,rfl,rfl,rfl,by omega,by omega,by simp only;omega,by simp only;omega⟩
   ·have e:outc bs a (k:Int) 0 0 (rd 10 0 (bs.drop a))=(zc,0,4):=by
     unfold outc
     rw [if_pos h,if_pos (by simp;omega)]
    right
    rw [if_neg (fun e=>h2 e.2),e]
    exact ⟨rfl,by simp,zc_bytes,by simp,by simp only;omega⟩
  ·have e:outc bs a (k:Int) 0 0 (rd 10 0 (bs.drop a))=(zc,0,(rd 10 0 (bs.drop a)).2.2):=by
    unfold outc
    rw [if_neg h]
   right
   rw [if_neg (fun e=>h e.1),e]
   exact ⟨rfl,h,zc_bytes,by simp,by simp only;omega⟩
 ·rw [hw]
  dsimp only
  rw [unvary_eq _ _ hc]
  refine ⟨_,rfl,?_⟩
  split
  ·have hv:=outc_val (bs:=c.1) (a:=c.2.1.toNat) (most:=(k:Int)) (r:=rd 10 0 (c.1.drop c.2.1.toNat)) (by omega)
   rw [hi hv.1 hv.2]
   exact ⟨outc_bytes hc _ _ _ _ _,hv⟩
  ·rw [hi (by simp) (by simp only;omega)]
   exact ⟨zc_bytes,by simp,by simp only;omega⟩
theorem sgn_prim {bs:List Int} (hb:Bytes bs) (hl:bs.length≤200000):Prim bs (fun _=>True) (pSgn bs) cwire_Unsigned (fun n=>n):=by
 refine ⟨fun a ha=>?_,fun c hc=>?_⟩
 ·rw [unsigned_eq (bs,((a:Int),())) hb,if_pos (valid_at hl ha)]
  dsimp only
  rw [Int.toNat_natCast,read1_eq bs a hl ha hb]
  unfold pSgn
  by_cases h:(rd 10 0 (bs.drop a)).2.2=0
  ·obtain ⟨g1,g2,g3⟩:=rd_at hb ha h
   have:=g1.le
   rw [if_pos h,if_pos h]
   exact ⟨_,rfl,.inl ⟨_,rfl,rfl,rfl,by omega,by omega,trivial⟩⟩
  ·rw [if_neg h,if_neg h]
   have e:outs (zc,0,(rd 10 0 (bs.drop a)).2.2)=(zc,0,(rd 10 0 (bs.drop a)).2.2):=by unfold outs;rw [if_neg h]
   rw [e]
   exact ⟨_,rfl,.inr ⟨rfl,h,zc_bytes,trivial⟩⟩
 ·rw [unsigned_eq _ hc]
  have key:∀ r:Cur×Int×Int,Bytes r.1.1→Bytes (outs r).1.1:=fun r hr=>by
   unfold outs
   split
   ·exact hr
   ·exact zc_bytes
  refine ⟨_,rfl,key _ ?_,trivial⟩
  split
  ·exact outc_bytes hc _ _ _ _ _
  ·exact zc_bytes
theorem said_prim {bs:List Int} (hb:Bytes bs) (hl:bs.length≤200000) (k:Nat) (hk:k≤200000):Prim bs (fun _=>True) (pSaid bs k) (fun c=>cwire_Untext (c,(k:Int))) (fun s=>s):=by
 refine ⟨fun a ha=>?_,fun c hc=>?_⟩
 ·dsimp only
  rw [untext_eq (bs,((a:Int),())) _ hb]
  refine ⟨_,rfl,?_⟩
  have o:outt (bs,((a:Int),())) (k:Int)=(let x:=outc bs a (k:Int) 0 0 (rd 10 0 (bs.drop a));if x.2.2≠0 then (zc,[],x.2.2) else if (bs.length:Int) - x.1.2.1 < x.2.1 then (zc,[],24) else ((bs,(x.1.2.1+x.2.1,())),(bs.take (x.1.2.1+x.2.1).toNat).drop x.1.2.1.toNat,0)):=by
   unfold outt
   rw [if_neg (fun e=>e (valid_at hl ha)),if_neg (by omega)]
   dsimp only
   rw [Int.toNat_natCast]
  unfold pSaid pNum
  by_cases h:(rd 10 0 (bs.drop a)).2.2=0
  ·obtain ⟨g1,g2,g3⟩:=rd_at hb ha h
   have hle:=g1.le
   by_cases h2:(rd 10 0 (bs.drop a)).1≤k
   ·have e:outc bs a (k:Int) 0 0 (rd 10 0 (bs.drop a))=((bs,(((a+(rd 10 0 (bs.drop a)).2.1:Nat):Int),())),((rd 10 0 (bs.drop a)).1:Int),0):=by
     unfold outc
     rw [if_pos h,if_neg (by simp;omega)]
     simp
    rw [e] at o
    dsimp only at o
    rw [if_neg (by simp)] at o
    rw [if_pos ⟨h,h2⟩,Option.bind_some]
    dsimp only
    rw [Int.toNat_natCast]
    by_cases h3:a+(rd 10 0 (bs.drop a)).2.1+(rd 10 0 (bs.drop a)).1≤bs.length
    ·rw [if_neg (by omega)] at o
     rw [o,if_pos h3]
     left
     refine ⟨_,?_,rfl,?_,by omega,h3,trivial⟩
     ·rw [show ((((a+(rd 10 0 (bs.drop a)).2.1:Nat):Int))+((rd 10 0 (bs.drop a)).1:Int)).toNat=(rd 10 0 (bs.drop a)).1+(a+(rd 10 0 (bs.drop a)).2.1) by omega,Int.toNat_natCast,List.drop_take,Nat.add_sub_cancel]
     ·simp
    ·rw [if_pos (by omega)] at o
     rw [o,if_neg h3]
     right
     exact ⟨rfl,by simp,zc_bytes,trivial⟩
   ·have e:outc bs a (k:Int) 0 0 (rd 10 0 (bs.drop a))=(zc,0,4):=by
     unfold outc
     rw [if_pos h,if_pos (by simp;omega)]
    rw [e] at o
    dsimp only at o
    rw [if_pos (by simp)] at o
    rw [o,if_neg (fun e=>h2 e.2)]
    right
    exact ⟨rfl,by simp,zc_bytes,trivial⟩
  ·have e:outc bs a (k:Int) 0 0 (rd 10 0 (bs.drop a))=(zc,0,(rd 10 0 (bs.drop a)).2.2):=by
    unfold outc
    rw [if_neg h]
   rw [e] at o
   dsimp only at o
   rw [if_pos h] at o
   rw [o,if_neg (fun e=>h e.1)]
   right
   exact ⟨rfl,h,zc_bytes,trivial⟩
 ·dsimp only
  rw [untext_eq _ _ hc]
  refine ⟨_,rfl,?_,trivial⟩
  unfold outt
  split
  ·exact zc_bytes
  split
  ·exact zc_bytes
  dsimp only
  split
  ·exact zc_bytes
  split
  ·exact zc_bytes
  ·exact hc
theorem ins_prim {bs:List Int} (hb:Bytes bs) (hl:bs.length≤200000):Prim bs (fun _=>True) (pIns bs) cops_Decode (fun x=>x):=by
 refine ⟨fun a ha=>?_,fun c hc=>?_⟩
 ·dsimp only
  rw [Decode_eq (bs,((a:Int),())) hb,if_pos (valid_at hl ha)]
  refine ⟨_,rfl,?_⟩
  dsimp only
  rw [Int.toNat_natCast]
  by_cases h:(decAt bs a).2.2=0
  ·left
   have hp:pIns bs a=some ((decAt bs a).1.2.1.toNat,(decAt bs a).2.1):=by unfold pIns;rw [if_pos h]
   obtain ⟨g1,g2,_⟩:=ins_snd hb a _ _ ha hp
   have:=g1.le
   refine ⟨_,hp,h,?_,by omega,by omega,trivial⟩
   obtain ⟨s1,s2⟩:=decAt_shift (bs:=bs) (a:=a)
   rw [(s2 h).2]
   simp
   omega
  ·right
   refine ⟨by unfold pIns;rw [if_neg h],h,?_,trivial⟩
   unfold decAt decEnd
   split
   ·exact zc_bytes
   ·split
    ·split
     ·exact zc_bytes
     ·split
      ·exact hb
      ·exact zc_bytes
    ·exact zc_bytes
 ·dsimp only
  rw [Decode_eq _ hc]
  refine ⟨_,rfl,?_,trivial⟩
  split
  ·unfold decAt decEnd
   split
   ·exact zc_bytes
   ·split
    ·split
     ·exact zc_bytes
     ·split
      ·exact hc
      ·exact zc_bytes
    ·exact zc_bytes
  ·exact zc_bytes
theorem decT_bytes {bs:List Int} (hb:Bytes bs) (a:Nat) (n:Int):Bytes (T.decT bs a n).1.1:=by
 unfold T.decT
 split
 ·exact zc_bytes
 split
 ·exact zc_bytes
 unfold T.decF
 split
 ·exact zc_bytes
 split
 ·exact hb
 ·exact zc_bytes
theorem runs_prim' {bs:List Int} (hb:Bytes bs) (hl:bs.length≤200000) (n:Nat) (F:Cur×Int→Option (Cur×List T.Rn×Int)) (hF:∀ c,Bytes c.1→F (c,(n:Int))=some (T.decR c n)):Prim bs (fun _=>True) (pRuns bs n) (fun c=>F (c,(n:Int))) (fun l=>l):=by
 refine ⟨fun a ha=>?_,fun c hc=>?_⟩
 ·dsimp only
  rw [hF (bs,((a:Int),())) hb]
  refine ⟨_,rfl,?_⟩
  unfold T.decR
  rw [if_pos (valid_at hl ha)]
  dsimp only
  rw [Int.toNat_natCast]
  by_cases hn:1≤n∧n≤200
  ·rw [if_neg (by omega)]
   by_cases h:(T.decT bs a n).2.2=0
   ·left
    have hp:pRuns bs n a=some ((T.decT bs a n).1.2.1.toNat,(T.decT bs a n).2.1):=by unfold pRuns;rw [if_pos ⟨hn,h⟩]
    obtain ⟨g1,g2,_⟩:=runs_snd hb n a _ _ ha hp
    have:=g1.le
    refine ⟨_,hp,h,?_,by omega,by omega,trivial⟩
    obtain ⟨s1,s2⟩:=decT_shift (bs:=bs) (a:=a) (n:=(n:Int))
    rw [(s2 h).2]
    simp
    omega
   ·right
    exact ⟨by unfold pRuns;rw [if_neg (fun e=>h e.2)],h,decT_bytes hb _ _,trivial⟩
  ·right
   rw [if_pos (by omega)]
   exact ⟨by unfold pRuns;rw [if_neg (fun e=>hn e.1)],by simp,zc_bytes,trivial⟩
 ·dsimp only
  rw [hF _ hc]
  refine ⟨_,rfl,?_,trivial⟩
  unfold T.decR
  split
  ·split
   ·exact zc_bytes
   ·exact decT_bytes hc _ _
  ·exact zc_bytes
section
def rdN {α:Type} (f:RS→Option (RS×α)):Nat→RS→Option (RS×List α)
 | 0,s=>some (s,[])
 | k+1,s=>(f s).bind fun x=>(rdN f k x.1).bind fun r=>some (r.1,x.2::r.2)
theorem rdN_rd {α:Type} {bs:List Int} {D:α→Prop} {p:Pr α} {f:RS→Option (RS×α)} (hf:Rd bs D p f):∀ k,Rd bs (fun l=>l.length=k∧∀ x∈l,D x) (prN p k) (rdN f k)
 | 0=>RdC.pure [] ⟨rfl,fun x hx=>by cases hx⟩ fun s=>rfl
 | k+1=>by
  refine RdC.bind (q:=fun v a=>(prN p k a).bind fun y=>some (y.1,v::y.2)) (hf.run fun x=>(rdN f k x.1).bind fun r=>some (r.1,x.2::r.2)) fun v hv=>?_
  refine RdC.bind (q:=fun l a=>some (a,v::l)) ((rdN_rd hf k).run fun r=>some (r.1,v::r.2)) fun l hl=>RdC.pure _ ⟨by simp [hl.1],fun x hx=>?_⟩ fun s=>rfl
  rcases List.mem_cons.1 hx with rfl | hx
  ·exact hv
  ·exact hl.2 x hx
theorem loop_rd {V α β:Type} {g:(V→Option β)→V→Option β} {mk:Nat→RS→List α→V} {z:α} {f:RS→Option (RS×α)} {kk:RS→List α→Option β} {n:Nat}
  (hs:∀ self i s l,i < l.length→l.length=n→g self (mk i s l)=(f s).bind fun x=>self (mk (i+1) x.1 (l.set i x.2))) (he:∀ self s l,l.length=n→g self (mk l.length s l)=kk s l) :
  ∀ (k i M:Nat) (s:RS) (pre:List α),i+k=n→pre.length=i→k < M→iterV g M (mk i s (pre++List.replicate k z))=(rdN f k s).bind fun r=>kk r.1 (pre++r.2)
 | k,i,0,_,_,_,_,h=>by omega
 | 0,i,M+1,s,pre,hi,hp,_=>by
  have hlen:(pre++List.replicate 0 z).length=n:=by simp;omega
  rw [iterV_succ,show i=(pre++List.replicate 0 z).length by omega,he _ _ _ hlen]
  simp [rdN]
 | k+1,i,M+1,s,pre,hi,hp,hM=>by
  rw [iterV_succ,hs _ i s _ (by simp;omega) (by simp;omega)]
  simp only [rdN]
  cases f s with
  | none=>rfl
  | some x=>
   simp only [Option.bind_some]
   have e:(pre++List.replicate (k+1) z).set i x.2=(pre++[x.2])++List.replicate k z:=by
    subst hp
    rw [List.replicate_succ]
    simp
   rw [e,loop_rd hs he k (i+1) M x.1 (pre++[x.2]) (by omega) (by simp [hp]) (by omega)]
   cases rdN f k x.1 with
   | none=>rfl
   | some r=>simp
theorem RdC.loop {V α β:Type} {bs:List Int} {D:α→Prop} {p:Pr α} {f:RS→Option (RS×α)} (hf:Rd bs D p f) {g:(V→Option β)→V→Option β} {mk:Nat→RS→List α→V} {z:α} {kk:RS→List α→Option β} (n:Nat) (hn:n≤1000000)
  (hs:∀ self i s l,i < l.length→l.length=n→g self (mk i s l)=(f s).bind fun x=>self (mk (i+1) x.1 (l.set i x.2))) (he:∀ self s l,l.length=n→g self (mk l.length s l)=kk s l) :
  RdC bs (fun l=>l.length=n∧∀ x∈l,D x) (prN p n) (fun s=>iterV g big (mk 0 s (List.replicate n z))) kk:=
 RdC.ext ((rdN_rd hf n).run fun r=>kk r.1 r.2) fun s=>(loop_rd hs he n 0 big s [] (by omega) rfl (bbig (by omega))).trans (by simp)
theorem big_succ:∃ k,big=k+1:=⟨(big - 4)+3,big_4⟩
abbrev no1 {α β γ:Type}:α→β→Option γ:=fun _ _=>none
abbrev y0:RS×Unit:=(okS [] 0,())
abbrev rep0:(α:Type)→Nat→α→List α:=fun _=>List.replicate
abbrev mkF0 (nm:List Int) (pa re:Int) (i:Nat) (s:RS) (l:List K.Fld):Int×Int×RS×List K.Fld×List Int×Int×Int×Unit×List K.Fld×List Ins×List T.Rn×List T.Rn×List Int×Int×Int×Unit×List K.Fld×List Ins×List T.Rn×List T.Rn:=
 ((l.length:Int),(i:Int),s,l,[],0,0,(),[],[],[],[],nm,pa,re,(),[],[],[],[])
abbrev mkF1 (nm:List Int) (pa re:Int) (sl:List K.Fld) (i:Nat) (s:RS) (l:List Ins):Int×Int×RS×List Ins×List Int×Int×Int×Unit×List K.Fld×List Ins×List T.Rn×List T.Rn×List Int×Int×Int×Unit×List K.Fld×List Ins×List T.Rn×List T.Rn:=
 ((l.length:Int),(i:Int),s,l,[],0,0,(),[],[],[],[],nm,pa,re,(),sl,[],[],[])
abbrev iz:Img:=([],([],([],())))
abbrev mkD0 (bs:List Int) (i:Nat) (s:RS) (l:List K.Typ):Int×Int×RS×List K.Typ×Unit×List K.Typ×List (List Int)×List Fun×Unit×List K.Typ×List (List Int)×List Fun×Unit×List K.Typ×List (List Int)×List Fun×List Int:=
 ((l.length:Int),(i:Int),s,l,(),[],[],[],(),[],[],[],(),[],[],[],bs)
abbrev mkD1 (bs:List Int) (t:List K.Typ) (i:Nat) (s:RS) (l:List (List Int)):Int×Int×RS×List (List Int)×Unit×List K.Typ×List (List Int)×List Fun×Unit×List K.Typ×List (List Int)×List Fun×Unit×List K.Typ×List (List Int)×List Fun×List Int:=
 ((l.length:Int),(i:Int),s,l,(),[],[],[],(),t,[],[],(),[],[],[],bs)
abbrev mkD2 (bs:List Int) (t:List K.Typ) (x:List (List Int)) (i:Nat) (s:RS) (l:List Fun):Int×Int×RS×List Fun×Unit×List K.Typ×List (List Int)×List Fun×Unit×List K.Typ×List (List Int)×List Fun×Unit×List K.Typ×List (List Int)×List Fun×List Int:=
 ((l.length:Int),(i:Int),s,l,(),[],[],[],(),t,x,[],(),[],[],[],bs)
variable {bs:List Int} (hb:Bytes bs) (hl:bs.length≤20000)
include hb hl
theorem pnum_rd (k:Nat) (hk:k≤1000000):Rd bs (fun n:Int=>0≤n∧n≤k) (pNum bs k) (fun s=>cimage_reader_number ((),((k:Int),())) (s,())):=
 prim_rd (num_prim hb (by omega) k hk) fun s=>by
  obtain ⟨j,hj⟩:=big_succ
  show rimage_reader_number big _ _=_
  rw [hj];rfl
theorem psgn_rd:Rd bs (fun _=>True) (pSgn bs) (fun s=>cimage_reader_signed ((),()) (s,())):=
 prim_rd (sgn_prim hb (by omega)) fun s=>by
  obtain ⟨j,hj⟩:=big_succ
  show rimage_reader_signed big _ _=_
  rw [hj];rfl
theorem pupTo_rd (k:Nat) (hk:k≤200000):Rd bs (fun _=>True) (pSaid bs k) (fun s=>cimage_reader_upTo ((),((k:Int),())) (s,())):=
 prim_rd (said_prim hb (by omega) k hk) fun s=>by
  obtain ⟨j,hj⟩:=big_succ
  show rimage_reader_upTo big _ _=_
  rw [hj];rfl
theorem pins_rd:Rd bs (fun _=>True) (pIns bs) (fun s=>cimage_reader_instr ((),()) (s,())):=
 prim_rd (ins_prim hb (by omega)) fun s=>by
  obtain ⟨j,hj⟩:=big_succ
  show rimage_reader_instr big _ _=_
  rw [hj];rfl
theorem pruns_rd (n:Nat) (hn:n≤1000000):Rd bs (fun _=>True) (pRuns bs n) (fun s=>cimage_reader_runs ((),((n:Int),())) (s,())):=
 prim_rd (runs_prim' hb (by omega) n ctables_Decode fun c hc=>T.pDecode_eq c n hc (by omega)) fun s=>by
  obtain ⟨j,hj⟩:=big_succ
  show rimage_reader_runs big _ _=_
  rw [hj];rfl
theorem pname_rd:Rd bs (fun _=>True) (pSaid bs 16) (fun s=>cimage_reader_name ((),()) (s,())):=
 (pupTo_rd hb hl 16 (by omega)).ext fun s=>by
  obtain ⟨j,hj⟩:=big_succ
  show rimage_reader_name big _ _=_
  rw [hj]
  show (cimage_reader_upTo ((),((16:Int),())) (s,())).bind _=_
  cases cimage_reader_upTo ((),((16:Int),())) (s,()) <;> rfl
theorem ptext_rd:Rd bs (fun _=>True) (pSaid bs 64) (fun s=>cimage_reader_text ((),()) (s,())):=
 (pupTo_rd hb hl 64 (by omega)).ext fun s=>by
  obtain ⟨j,hj⟩:=big_succ
  show rimage_reader_text big _ _=_
  rw [hj]
  show (cimage_reader_upTo ((),((64:Int),())) (s,())).bind _=_
  cases cimage_reader_upTo ((),((64:Int),())) (s,()) <;> rfl
theorem pkind_rd:Rd bs (fun _=>True) (pByte bs) (fun s=>cimage_reader_kind ((),()) (s,())):=by
 have hp:Prim bs (fun _=>True) (pByte bs) (fun c=>cwire_Unfixed (c,1)) (fun n=>IntKind.u8.wrap n):=by
  refine ⟨fun a ha=>?_,fun c hc=>?_⟩
  ·dsimp only
   rw [unfixed_eq (bs,((a:Int),())) 1 hb,if_neg (fun e=>e (valid_at (by omega) ha)),if_neg (by simp [wide])]
   dsimp only
   refine ⟨_,rfl,?_⟩
   unfold pByte
   by_cases h:a < bs.length
   ·left
    rw [if_neg (by omega)]
    have hbb:=hb _ (List.getElem_mem h)
    refine ⟨a+1,?_,rfl,by simp,by omega,by omega,trivial⟩
    rw [List.getElem?_eq_getElem h]
    simp only [Option.map_some,Int.toNat_natCast]
    have e:(bs.drop a).take (Int.toNat 1)=[bs[a]]:=by
     rw [List.drop_eq_getElem_cons h];rfl
    rw [e]
    simp only [unl,Nat.mul_zero,Nat.add_zero]
    rw [Int.toNat_of_nonneg hbb.1,wrap_id ⟨by rw [min_u8];exact hbb.1,by rw [max_u8];exact hbb.2⟩]
   ·right
    rw [if_pos (by omega)]
    exact ⟨by rw [List.getElem?_eq_none (by omega)];rfl,by simp,zc_bytes,trivial⟩
  ·dsimp only
   rw [unfixed_eq _ _ hc]
   refine ⟨_,rfl,?_,trivial⟩
   split
   ·exact zc_bytes
   split
   ·exact zc_bytes
   split
   ·exact zc_bytes
   ·exact hc
 exact prim_rd hp fun s=>by
  obtain ⟨j,hj⟩:=big_succ
  show rimage_reader_kind big _ _=_
  rw [hj];rfl
abbrev L1:Lm:=⟨32,32,16,8,16,32,32,64,32,16,16,200⟩
theorem pfield_rd:Rd bs (fun _=>True) (pFld bs L1) (fun s=>cimage_reader_field ((),()) (s,())):=by
 refine RdC.ext (F:=fun s=>(cimage_reader_name ((),()) (s,())).bind fun x=>(cimage_reader_number ((),((32:Nat):Int),()) (x.1,())).bind fun y=>some (y.1,(x.2,(y.2,())))) ?_ fun s=>?_
 ·refine RdC.bind (q:=fun v a=>(pNum bs 32 a).bind fun y=>some (y.1,(v,(y.2,())))) ((pname_rd hb hl).run _) fun v _=>?_
  dsimp only
  refine RdC.bind (q:=fun w a=>some (a,(v,(w,())))) ((pnum_rd hb hl 32 (by omega)).run _) fun w _=>?_
  exact RdC.pure _ trivial fun s=>rfl
 ·obtain ⟨j,hj⟩:=big_succ
  show rimage_reader_field big _ _=_
  rw [hj];rfl
omit hb hl in
theorem mkOk {n:Int} {k:Nat} (h:0≤n∧n≤k) (hk:k≤1000000):(decide (0≤n)&&(decide (n≤n)&&(decide (n≤68719476736)&&true)))=true:=by
 rw [decide_eq_true h.1,decide_eq_true (Int.le_refl n),decide_eq_true (by omega)];rfl
theorem ptyp_rd:Rd bs (fun _=>True) (pTyp bs L1) (fun s=>cimage_reader_typeOfTable ((),()) (s,())):=by
 refine RdC.ext (F:=fun s=>nimage_reader_typeOfTable no1 (s,()) rep0 (iterV (gimage_reader_typeOfTable_0 no1 y0 rep0 big) big) ((),())) ?_ fun s=>?_
 rotate_left
 ·obtain ⟨j,hj⟩:=big_succ
  show rimage_reader_typeOfTable big _ _=_
  conv=>lhs;rw [hj]
  rfl
 unfold nimage_reader_typeOfTable
 refine RdC.bind (q:=fun o a=>if o=4∨o=7 then (pNum bs 32 a).bind fun y=>some (y.1,(o,(y.2,(0,([],())))))
  else if o=6 then (pNum bs 32 a).bind fun y=>(pNum bs 16 y.1).bind fun z=>some (z.1,(o,(y.2,(z.2,([],())))))
  else if o=5 then (pLst bs 8 (pFld bs L1) a).bind fun y=>some (y.1,(o,(0,(0,(y.2,())))))
  else some (a,(o,(0,(0,([],())))))) ((pkind_rd hb hl).run _) fun o _=>?_
 have ptr:RdC bs (fun _=>True) (fun a=>(pNum bs 32 a).bind fun y=>some (y.1,((o,(y.2,(0,([],())))):K.Typ))) (fun s=>(cimage_reader_number ((),((32:Int),())) (s,())).bind fun x=>some (x.1,((o,(x.2,(0,([],())))):K.Typ))) (fun s v=>some (s,v)):=
  RdC.bind (q:=fun w a=>some (a,((o,(w,(0,([],())))):K.Typ))) ((pnum_rd hb hl 32 (by omega)).run _) fun w _=>RdC.pure _ trivial fun s=>rfl
 dsimp only
 simp only [K.beq_dec]
 by_cases c4:o=4
 ·simp only [c4,decide_true,cond_true,true_or,if_true] at ptr ⊢
  exact ptr
 ·by_cases c7:o=7
  ·simp only [c7,decide_true,cond_true,or_true,if_true,show decide ((7:Int)=4)=false from rfl,cond_false] at ptr ⊢
   exact ptr
  ·by_cases c6:o=6
   ·simp only [c6,decide_true,cond_true,if_true,show decide ((6:Int)=4)=false from rfl,show decide ((6:Int)=7)=false from rfl,cond_false,show ¬ ((6:Int)=4∨(6:Int)=7) by omega,if_false]
    refine RdC.bind (q:=fun w a=>(pNum bs 16 a).bind fun z=>some (z.1,((6,(w,(z.2,([],())))):K.Typ))) ((pnum_rd hb hl 32 (by omega)).run _) fun w _=>?_
    dsimp only
    refine RdC.bind (q:=fun z a=>some (a,((6,(w,(z,([],())))):K.Typ))) ((pnum_rd hb hl 16 (by omega)).run _) fun z _=>?_
    exact RdC.pure _ trivial fun s=>rfl
   ·by_cases c5:o=5
    ·simp only [c5,decide_true,cond_true,if_true,show decide ((5:Int)=4)=false from rfl,show decide ((5:Int)=7)=false from rfl,show decide ((5:Int)=6)=false from rfl,cond_false,show ¬ ((5:Int)=4∨(5:Int)=7) by omega,if_false,show ¬ ((5:Int)=6) by omega]
     refine RdC.bind (p:=pLst bs 8 (pFld bs L1)) (q:=fun l a=>some (a,((5,(0,(0,(l,())))):K.Typ))) (D:=fun _=>True) (k1:=fun s l=>some (s,((5,(0,(0,(l,())))):K.Typ))) ?_ fun l _=>RdC.pure _ trivial fun s=>rfl
     refine RdC.bind (q:=fun (n:Int)=>prN (pFld bs L1) n.toNat) ((pnum_rd hb hl 8 (by omega)).run _) fun n hn=>?_
     simp only [mkOk hn (by omega),cond_true]
     have h8:n.toNat≤8:=by omega
     refine (RdC.loop (pfield_rd hb hl) (g:=gimage_reader_typeOfTable_0 no1 y0 rep0 big) (mk:=fun i s l=>((l.length:Int),(i:Int),s,l,(0:Int),(0:Int),(0:Int),(),([]:List K.Fld),((5,(0,(0,([],())))):K.Typ))) (z:=(([]:List Int),((0:Int),()))) n.toNat (by omega)
      (fun self i s l hi hll=>by
       simp only [gimage_reader_typeOfTable_0,himage_reader_typeOfTable_0]
       simp only [lt_t hi,cond_true]
       refine congrArg (fun k=>Option.bind _ k) (funext fun x=>?_)
       rw [decide_eq_true (show (0:Int)≤(i:Int) by omega),Bool.true_and,cond_true,wS hi (by omega)]
       simp [mkF0,mkF1,mkD0,mkD1,mkD2])
      (fun self s l hll=>by
       simp only [gimage_reader_typeOfTable_0,himage_reader_typeOfTable_0]
       simp only [lt_f,cond_false])).mono fun _ _=>trivial
    ·simp only [c4,c5,c6,c7,decide_false,cond_false,or_self,if_false]
     exact RdC.pure _ trivial fun s=>rfl
abbrev fEnd (nm:List Int) (pa re:Int) (sl:List K.Fld) (s:RS) (l:List Ins):Option (RS×Fun):=
 (cimage_reader_runs ((),((l.length:Int),())) (s,())).bind fun x14=>(cimage_reader_runs ((),((l.length:Int),())) (x14.1,())).bind fun x15=>some (x15.1,(nm,(pa,(re,(sl,(l,(x14.2,(x15.2,()))))))))
abbrev fMid (nm:List Int) (pa re:Int) (s:RS) (sl:List K.Fld):Option (RS×Fun):=
 (cimage_reader_number ((),((200:Int),())) (s,())).bind fun x9=>(bif (decide (0≤x9.2)&&(decide (x9.2≤x9.2)&&(decide (x9.2≤68719476736)&&true))) then iterV (gimage_reader_function_1 no1 y0 rep0 big fun _=>none) big (mkF1 nm pa re sl 0 x9.1 (List.replicate (Int.toNat x9.2) (0,(0,(0,(0,())))))) else none)
theorem pfun_rd:Rd bs (fun _=>True) (pFn bs L1) (fun s=>cimage_reader_function ((),()) (s,())):=by
 refine RdC.ext (F:=fun s=>nimage_reader_function no1 (s,()) rep0 (iterV (gimage_reader_function_0 no1 y0 rep0 big) big) ((),())) ?_ fun s=>?_
 rotate_left
 ·obtain ⟨j,hj⟩:=big_succ
  show rimage_reader_function big _ _=_
  conv=>lhs;rw [hj]
  rfl
 unfold nimage_reader_function
 refine RdC.bind (q:=fun n a=>(pNum bs 16 a).bind fun y=>(pSgn bs y.1).bind fun z=>(pLst bs 16 (pFld bs L1) z.1).bind fun s=>(pLst bs 200 (pIns bs) s.1).bind fun c=>(pRuns bs c.2.length c.1).bind fun u=>(pRuns bs c.2.length u.1).bind fun v=>some (v.1,((n,(y.2,(z.2,(s.2,(c.2,(u.2,(v.2,()))))))):Fun))) ((pname_rd hb hl).run _) fun n _=>?_
 dsimp only
 refine RdC.bind (q:=fun p a=>(pSgn bs a).bind fun z=>(pLst bs 16 (pFld bs L1) z.1).bind fun s=>(pLst bs 200 (pIns bs) s.1).bind fun c=>(pRuns bs c.2.length c.1).bind fun u=>(pRuns bs c.2.length u.1).bind fun v=>some (v.1,((n,(p,(z.2,(s.2,(c.2,(u.2,(v.2,()))))))):Fun))) ((pnum_rd hb hl 16 (by omega)).run _) fun p _=>?_
 dsimp only
 refine RdC.bind (q:=fun r a=>(pLst bs 16 (pFld bs L1) a).bind fun s=>(pLst bs 200 (pIns bs) s.1).bind fun c=>(pRuns bs c.2.length c.1).bind fun u=>(pRuns bs c.2.length u.1).bind fun v=>some (v.1,((n,(p,(r,(s.2,(c.2,(u.2,(v.2,()))))))):Fun))) ((psgn_rd hb hl).run _) fun r _=>?_
 dsimp only
 refine RdC.bind (p:=pLst bs 16 (pFld bs L1)) (q:=fun sl a=>(pLst bs 200 (pIns bs) a).bind fun c=>(pRuns bs c.2.length c.1).bind fun u=>(pRuns bs c.2.length u.1).bind fun v=>some (v.1,((n,(p,(r,(sl,(c.2,(u.2,(v.2,()))))))):Fun))) (D:=fun _=>True) (k1:=fun s sl=>fMid n p r s sl) ?_ fun sl _=>?_
 ·refine RdC.bind (q:=fun (n:Int)=>prN (pFld bs L1) n.toNat) ((pnum_rd hb hl 16 (by omega)).run _) fun k hk=>?_
  simp only [mkOk hk (by omega),cond_true]
  refine (RdC.loop (pfield_rd hb hl) (g:=gimage_reader_function_0 no1 y0 rep0 big) (mk:=mkF0 n p r) (z:=(([]:List Int),((0:Int),()))) k.toNat (by omega)
   (fun self i s l hi hll=>by
    simp only [gimage_reader_function_0,himage_reader_function_0]
    simp only [lt_t hi,cond_true]
    refine congrArg (fun k=>Option.bind _ k) (funext fun x=>?_)
    rw [decide_eq_true (show (0:Int)≤(i:Int) by omega),Bool.true_and,cond_true,wS hi (by omega)]
    simp [mkF0,mkF1,mkD0,mkD1,mkD2])
   (fun self s l hll=>by
    simp only [gimage_reader_function_0,himage_reader_function_0]
    simp only [lt_f,cond_false]
    rfl)).mono fun _ _=>trivial
 ·refine RdC.bind (p:=pLst bs 200 (pIns bs)) (q:=fun c a=>(pRuns bs c.length a).bind fun u=>(pRuns bs c.length u.1).bind fun v=>some (v.1,((n,(p,(r,(sl,(c,(u.2,(v.2,()))))))):Fun))) (D:=fun c=>c.length≤200) (k1:=fun s c=>fEnd n p r sl s c) ?_ fun c hc=>?_
  ·refine RdC.bind (q:=fun (n:Int)=>prN (pIns bs) n.toNat) ((pnum_rd hb hl 200 (by omega)).run _) fun k hk=>?_
   simp only [mkOk hk (by omega),cond_true]
   refine (RdC.loop (pins_rd hb hl) (g:=gimage_reader_function_1 no1 y0 rep0 big fun _=>none) (mk:=mkF1 n p r sl) (z:=((0,(0,(0,(0,())))):Ins)) k.toNat (by omega)
    (fun self i s l hi hll=>by
     simp only [gimage_reader_function_1,himage_reader_function_1]
     simp only [lt_t hi,cond_true]
     refine congrArg (fun k=>Option.bind _ k) (funext fun x=>?_)
     rw [decide_eq_true (show (0:Int)≤(i:Int) by omega),Bool.true_and,cond_true,wS hi (by omega)]
     simp [mkF0,mkF1,mkD0,mkD1,mkD2])
    (fun self s l hll=>by
     simp only [gimage_reader_function_1,himage_reader_function_1]
     simp only [lt_f,cond_false])).mono fun l h=>by have:=h.1;omega
  ·refine RdC.bind (q:=fun u a=>(pRuns bs c.length a).bind fun v=>some (v.1,((n,(p,(r,(sl,(c,(u,(v.2,()))))))):Fun))) ((pruns_rd hb hl c.length (by omega)).run _) fun u _=>?_
   dsimp only
   refine RdC.bind (q:=fun v a=>some (a,((n,(p,(r,(sl,(c,(u,(v,()))))))):Fun))) ((pruns_rd hb hl c.length (by omega)).run _) fun v _=>?_
   exact RdC.pure _ trivial fun s=>rfl
abbrev dEnd (bs:List Int) (s:RS) (m:Img):Option (Img×Int):=
 bif s.2.1 then some (iz,12) else bif (s.1.2.1 != (bs.length:Int)) then some (iz,12) else (cimage_isValid m).bind fun x=>bif !x then some (iz,12) else some (m,0)
abbrev dMid2 (bs:List Int) (t:List K.Typ) (s:RS) (x:List (List Int)):Option (Img×Int):=
 (cimage_reader_number ((),((32:Int),())) (s,())).bind fun x13=>(bif (decide (0≤x13.2)&&(decide (x13.2≤x13.2)&&(decide (x13.2≤68719476736)&&true))) then iterV (gimage_Decode_2 rep0 big (fun _=>none) fun _=>none) big (mkD2 bs t x 0 x13.1 (List.replicate (Int.toNat x13.2) ([],(0,(0,([],([],([],([],()))))))))) else none)
abbrev dMid1 (bs:List Int) (s:RS) (t:List K.Typ):Option (Img×Int):=
 (cimage_reader_number ((),((32:Int),())) (s,())).bind fun x8=>(bif (decide (0≤x8.2)&&(decide (x8.2≤x8.2)&&(decide (x8.2≤68719476736)&&true))) then iterV (gimage_Decode_1 rep0 big fun _=>none) big (mkD1 bs t 0 x8.1 (List.replicate (Int.toNat x8.2) [])) else none)
theorem pimg_rd:RdC bs (fun _=>True) (pImg bs L1) (fun s=>(cimage_reader_number ((),((32:Int),())) (s,())).bind fun x3=>(bif (decide (0≤x3.2)&&(decide (x3.2≤x3.2)&&(decide (x3.2≤68719476736)&&true))) then iterV (gimage_Decode_0 rep0 big) big (mkD0 bs 0 x3.1 (List.replicate (Int.toNat x3.2) (0,(0,(0,([],())))))) else none)) (dEnd bs):=by
 refine RdC.bind (p:=pLst bs 32 (pTyp bs L1)) (q:=fun t a=>(pLst bs 32 (pSaid bs 64) a).bind fun y=>(pLst bs 32 (pFn bs L1) y.1).bind fun z=>some (z.1,((t,(y.2,(z.2,()))):Img))) (D:=fun _=>True) (k1:=fun s t=>dMid1 bs s t) ?_ fun t _=>?_
 ·refine RdC.bind (q:=fun (n:Int)=>prN (pTyp bs L1) n.toNat) ((pnum_rd hb hl 32 (by omega)).run _) fun k hk=>?_
  simp only [mkOk hk (by omega),cond_true]
  refine (RdC.loop (ptyp_rd hb hl) (g:=gimage_Decode_0 rep0 big) (mk:=mkD0 bs) (z:=((0,(0,(0,([],())))):K.Typ)) k.toNat (by omega)
   (fun self i s l hi hll=>by
    simp only [gimage_Decode_0,himage_Decode_0]
    simp only [lt_t hi,cond_true]
    refine congrArg (fun k=>Option.bind _ k) (funext fun x=>?_)
    rw [decide_eq_true (show (0:Int)≤(i:Int) by omega),Bool.true_and,cond_true,wS hi (by omega)]
    simp [mkF0,mkF1,mkD0,mkD1,mkD2])
   (fun self s l hll=>by
    simp only [gimage_Decode_0,himage_Decode_0]
    simp only [lt_f,cond_false]
    rfl)).mono fun _ _=>trivial
 refine RdC.bind (p:=pLst bs 32 (pSaid bs 64)) (q:=fun x a=>(pLst bs 32 (pFn bs L1) a).bind fun z=>some (z.1,((t,(x,(z.2,()))):Img))) (D:=fun _=>True) (k1:=fun s x=>dMid2 bs t s x) ?_ fun x _=>?_
 ·refine RdC.bind (q:=fun (n:Int)=>prN (pSaid bs 64) n.toNat) ((pnum_rd hb hl 32 (by omega)).run _) fun k hk=>?_
  simp only [mkOk hk (by omega),cond_true]
  refine (RdC.loop (ptext_rd hb hl) (g:=gimage_Decode_1 rep0 big fun _=>none) (mk:=mkD1 bs t) (z:=([]:List Int)) k.toNat (by omega)
   (fun self i s l hi hll=>by
    simp only [gimage_Decode_1,himage_Decode_1]
    simp only [lt_t hi,cond_true]
    refine congrArg (fun k=>Option.bind _ k) (funext fun x=>?_)
    rw [decide_eq_true (show (0:Int)≤(i:Int) by omega),Bool.true_and,cond_true,wS hi (by omega)]
    simp [mkF0,mkF1,mkD0,mkD1,mkD2])
   (fun self s l hll=>by
    simp only [gimage_Decode_1,himage_Decode_1]
    simp only [lt_f,cond_false]
    rfl)).mono fun _ _=>trivial
 refine RdC.bind (p:=pLst bs 32 (pFn bs L1)) (q:=fun f a=>some (a,((t,(x,(f,()))):Img))) (D:=fun _=>True) (k1:=fun s f=>dEnd bs s (t,(x,(f,())))) ?_ fun f _=>RdC.pure _ trivial fun s=>rfl
 refine RdC.bind (q:=fun (n:Int)=>prN (pFn bs L1) n.toNat) ((pnum_rd hb hl 32 (by omega)).run _) fun k hk=>?_
 simp only [mkOk hk (by omega),cond_true]
 refine (RdC.loop (pfun_rd hb hl) (g:=gimage_Decode_2 rep0 big (fun _=>none) fun _=>none) (mk:=mkD2 bs t x) (z:=(([],(0,(0,([],([],([],([],()))))))):Fun)) k.toNat (by omega)
  (fun self i s l hi hll=>by
   simp only [gimage_Decode_2,himage_Decode_2]
   simp only [lt_t hi,cond_true]
   refine congrArg (fun k=>Option.bind _ k) (funext fun x=>?_)
   rw [decide_eq_true (show (0:Int)≤(i:Int) by omega),Bool.true_and,cond_true,wS hi (by omega)]
   simp [mkF0,mkF1,mkD0,mkD1,mkD2])
  (fun self s l hll=>by
   simp only [gimage_Decode_2,himage_Decode_2]
   simp only [lt_f,cond_false])).mono fun _ _=>trivial
def decI (bs:List Int):Img×Int:=if bs.length > 20000 then (iz,4) else match pImg bs L1 0 with
 | some (b,m)=>if b=bs.length∧okImg m=true then (m,0) else (iz,12)
 | none=>(iz,12)
omit hl in
theorem pDecodeI_eq:cimage_Decode bs=some (decI bs):=by
 unfold decI
 show nimage_Decode rep0 (iterV (gimage_Decode_0 rep0 big) big) bs=_
 unfold nimage_Decode
 by_cases hl:bs.length > 20000
 ·rw [decide_eq_true (by omega),cond_true,if_pos hl]
 ·rw [decide_eq_false (by omega),cond_false,if_neg hl]
  have hr:=(pimg_rd hb (by omega)).1 0 (by omega)
  cases hp:pImg bs L1 0 with
  | none=>
   obtain ⟨s,v,b1,_,b3⟩:=hr.2 hp
   refine Eq.trans b3 ?_
   show dEnd bs s v=_
   unfold dEnd
   rw [b1.1];rfl
  | some x=>
   obtain ⟨b,m⟩:=x
   obtain ⟨h1,h2,_,h4⟩:=hr.1 b m hp
   obtain ⟨_,_,hq⟩:=img_snd hb L1 0 b m (by omega) hp
   obtain ⟨ha,_⟩:=hq.all (by constructor <;> simp) (by simp)
   refine Eq.trans h4 ?_
   show dEnd bs (okS bs b) m=some (if b=bs.length∧okImg m=true then (m,0) else (iz,12))
   unfold dEnd
   rw [show (okS bs b).2.1=false from rfl,cond_false,show (okS bs b).1.2.1=(b:Int) from rfl,bne_dec,bif_not]
   by_cases hbl:b=bs.length
   ·rw [decide_eq_true (by omega),cond_true,isValid_eq m ha.l.ty ha.l.fn,Option.bind_some,bif_not]
    by_cases hv:okImg m=true
    ·rw [hv,cond_true,if_pos ⟨hbl,rfl⟩]
    ·rw [show okImg m=false by simpa using hv,cond_false,if_neg (fun e=>by cases e.2)]
   ·rw [decide_eq_false (by omega),cond_false,if_neg (fun e=>hbl e.1)]
end
section
variable {bs:List Int} (hb:Bytes bs) (hl:bs.length≤20000)
include hb hl
end
abbrev FldTy:Ty:=.pair .str (.pair (.int .i64) .unit)
abbrev TypTy:Ty:=.pair (.int .u8) (.pair (.int .i64) (.pair (.int .i64) (.pair (.slice FldTy) .unit)))
abbrev InsTy:Ty:=.pair (.int .u8) (.pair (.int .i64) (.pair (.int .i64) (.pair (.int .i64) .unit)))
abbrev RnTy:Ty:=.pair (.int .i64) (.pair (.int .u64) .unit)
abbrev FunTy:Ty:=.pair .str (.pair (.int .i64) (.pair (.int .i64) (.pair (.slice FldTy) (.pair (.slice InsTy) (.pair (.slice RnTy) (.pair (.slice RnTy) .unit))))))
abbrev ImgTy:Ty:=.pair (.slice TypTy) (.pair (.slice .str) (.pair (.slice FunTy) .unit))
theorem wf_i64 {n:Int} (w:Wf (.int .i64) n):I64 n:=by
 have : -9223372036854775808≤n∧n≤9223372036854775807:=by simpa only [Wf,min_i64,show IntKind.i64.max=9223372036854775807 by decide] using w
 exact this
theorem wf_u64 {n:Int} (w:Wf (.int .u64) n):0≤n∧n≤18446744073709551615:=by simpa only [Wf,min_u64,max_u64] using w
theorem wf_u8 {n:Int} (w:Wf (.int .u8) n):0≤n∧n≤255:=by
 simpa only [Wf,show IntKind.u8.min=0 by decide,show IntKind.u8.max=255 by decide] using w
theorem wf_runs9 {l:List T.Rn} (w:Wf (.slice RnTy) l):T.V64 l:=fun r hr=>by
 have:=wf_u64 (w.2 r hr).2.1
 exact ⟨this.1,by omega⟩
theorem wf_all {m:Img} (w:Wf ImgTy m) (g:ImgG m):ImgAll m∧ImgB m:=by
 have wf:∀ f∈m.2.2.1,Wf FunTy f:=fun f hf=>w.2.2.1.2 f hf
 refine ⟨⟨⟨by have:=g.ty.1;omega,fun t ht=>by have:=g.ty.2 t ht;omega⟩,fun f hf=>?_,fun f hf=>?_⟩,⟨⟨by have:=g.ty.1;omega,fun t ht=>by have:=g.ty.2 t ht;omega⟩,by have:=g.tx;omega,by have:=g.fn.1;omega,fun f hf=>?_⟩⟩
 ·have h:=wf f hf
  have h1:=g.fn.2 f hf
  exact ⟨fun x hx=>wf_u8 (h.2.2.2.2.1.2 x hx).1,by have:=h1.s1;omega,by have:=h1.s2;omega⟩
 ·have h:=wf f hf
  exact ⟨wf_i64 h.2.2.1,fun x hx=>⟨wf_i64 (h.2.2.2.2.1.2 x hx).2.1,wf_i64 (h.2.2.2.2.1.2 x hx).2.2.1,wf_i64 (h.2.2.2.2.1.2 x hx).2.2.2.1⟩,wf_runs9 h.2.2.2.2.2.1,wf_runs9 h.2.2.2.2.2.2.1⟩
 ·have h1:=g.fn.2 f hf
  exact ⟨by have:=h1.sl;omega,by have:=h1.code;omega,by have:=h1.s1;omega,by have:=h1.s2;omega⟩
theorem nilapp {α:Type} (e:Nat) (he:Nat.ble 1 e=true) (l:List α) (h:l.length≤1000000):(Nat.ble 1 e&&Nat.ble (List.length ([]:List α)+List.length l) lim)=true:=by
 rw [he,ble_lim (by simp;omega)];rfl
theorem alive09:claw09_alive ()=some true:=by kernel_rfl
theorem l1b:LmB L1:=by constructor <;> simp
theorem l1k:LmOk L1:=by constructor <;> simp
theorem img_at {L:Lm} (hb:LmB L) (hk:LmOk L) {bs:List Int} {m:Img} (hc:codeI m=bs) (ho:okImg m=true) (hm:ImgM m):pImg bs L 0=some (bs.length,m):=by
 have:=img_rdz bs L hb m (ok_lim hk ho hm) 0 (by rw [hc];exact at_all)
 rwa [hc,Nat.zero_add] at this
theorem dec_cases {bs:List Int} (hb:Bytes bs):(∃ m,decI bs=(m,0)∧bs.length≤20000∧okImg m=true∧codeI m=bs∧ImgAll m∧ImgB m)∨decI bs=(iz,if bs.length > 20000 then 4 else 12):=by
 unfold decI
 by_cases hl:bs.length > 20000
 ·right;rw [if_pos hl,if_pos hl]
 ·rw [if_neg hl]
  rw [if_neg hl]
  cases hp:pImg bs L1 0 with
  | none=>right;rfl
  | some x=>
   obtain ⟨b,m⟩:=x
   dsimp only
   by_cases h:b=bs.length∧okImg m=true
   ·obtain ⟨g1,g2,g3⟩:=img_snd hb L1 0 b m (by omega) hp
    obtain ⟨g4,g5⟩:=g3.all l1b (by simp)
    left
    exact ⟨m,if_pos h,by omega,h.2,at_eq g1 (by omega),g4,g5⟩
   ·right;exact if_neg h
theorem wf_bytes {b:List Int} (w:Wf (.slice (.int .u8)) b):Bytes b:=fun c hc=>wf_u8 (w.2 c hc)
theorem bytes_nil:Bytes []:=fun c hc=>by cases hc
theorem bytes_flat {α:Type} {f:α→List Int}:∀ {l:List α},(∀ x∈l,Bytes (f x))→Bytes (l.flatMap f)
 | [],_=>bytes_nil
 | x::r,h=>by
  rw [List.flatMap_cons]
  exact bytes_append (h x (by simp)) (bytes_flat fun y hy=>h y (by simp [hy]))
theorem bytes_len {α:Type} {l:List α} (h:l.length≤1000000):Bytes (vary l.length):=vary_bytes (by omega)
theorem bytes_63 {n:Int} (h:P63 n):Bytes (vary n.toNat):=vary_bytes (by have:=h.1;have:=h.2;omega)
theorem bytes_said {s:List Int} (hl:s.length≤200000) (h:Bytes s):Bytes (said s):=bytes_append (vary_bytes (by omega)) h
theorem bytes_flds {fs:List K.Fld} (hl:fs.length≤1000000) (h:∀ f∈fs,FldW f∧Bytes f.1):Bytes (codeFs fs):=
 bytes_append (bytes_len hl) (bytes_flat fun f hf=>bytes_append (bytes_said (h f hf).1.1 (h f hf).2) (bytes_63 (h f hf).1.2))
theorem bytes_seg:∀ (l:List T.Rn) (w:Int),(∀ r∈l,(0≤r.1∧r.1≤1000)∧0≤r.2.1∧r.2.1 < 18446744073709551616)→0≤w→Bytes (T.segR w l)
 | [],_,_,_=>bytes_nil
 | r::l,w,h,hw=>by
  obtain ⟨h1,h2⟩:=h r (by simp)
  exact bytes_append (vary_bytes (by omega)) (bytes_append (vary_bytes (by omega)) (bytes_seg l r.1 (fun x hx=>h x (by simp [hx])) h1.1))
theorem bytes_runs {l:List T.Rn} {n:Nat} (h:T.checkR l n=0) (v:T.V64 l):Bytes (T.codedR l):=by
 obtain ⟨⟨h1,h2⟩,h3⟩:=T.checkR_zero.1 h
 have:=T.checkR_len h
 exact bytes_append (bytes_len (by omega)) (bytes_seg l 0 (fun r hr=>⟨by have:=T.fine_range h3 hr;omega,v r hr⟩) (by omega))
theorem bytes_img {m:Img} (w:Wf ImgTy m) (a:ImgAll m) (ho:okImg m=true):Bytes (codeI m):=by
 obtain ⟨⟨t1,t2⟩,⟨x1,x2⟩,f1,f2⟩:=(img_ok ho a.mem).1
 have ws:∀ {s:List Int},Wf .str s→Bytes s:=fun h=>h.2
 refine bytes_append (bytes_len t1) (bytes_append (bytes_flat fun t ht=>?_) (bytes_append (bytes_len x1) (bytes_append (bytes_flat fun s hs=>bytes_said (x2 s hs) (ws (w.2.1.2 s hs))) (bytes_append (bytes_len f1) (bytes_flat fun f hf=>?_)))))
 ·obtain ⟨g1,g2,g3,g4⟩:=t2 t ht
  have wt:Wf TypTy t:=w.1.2 t ht
  have hk:=wf_u8 wt.1
  have key:Bytes (tailT t):=by
   unfold tailT
   split
   ·exact bytes_63 g1
   split
   ·exact bytes_append (bytes_63 g1) (bytes_63 g2)
   split
   ·exact bytes_flds g3 fun f hf=>⟨g4 f hf,ws (wt.2.2.2.1.2 f hf).1⟩
   ·exact bytes_nil
  intro c hc
  rcases List.mem_cons.1 hc with rfl | hc
  ·exact hk
  ·exact key c hc
 ·obtain ⟨g1,g2,g3,g4,g5,g6,g7⟩:=f2 f hf
  have wf:Wf FunTy f:=w.2.2.1.2 f hf
  exact bytes_append (bytes_said g1 (ws wf.1)) (bytes_append (bytes_63 g2) (bytes_append (vary_bytes (dbl_lt g3.1 g3.2)) (bytes_append (bytes_flds g4.1 fun x hx=>⟨g4.2 x hx,ws (wf.2.2.2.1.2 x hx).1⟩) (bytes_append (bytes_len g5.1) (bytes_append (bytes_flat fun x hx=>(enc_bytes (g5.2 x hx).1 (g5.2 x hx).2).1) (bytes_append (bytes_runs g6.2.2 g6.2.1) (bytes_runs g7.2.2 g7.2.1)))))))
theorem dec_none {b:List Int} (hb:Bytes b) (hl:b.length≤20000) (h:∀ n,okImg n=true→ImgM n→codeI n≠b):decI b=(iz,12):=by
 rcases dec_cases hb with ⟨m,h1,h2,h3,h4,h5,h6⟩ | e
 ·exact absurd h4 (h m h3 h5.mem)
 ·rw [e,if_neg (by omega)]
theorem code_pre {m n:Img} {r:List Int} (hm:okImg m=true) (wm:ImgM m) (hn:okImg n=true) (wn:ImgM n) (h:codeI m=codeI n++r):m=n∧r=[]:=by
 have h1:=img_at l1b l1k (bs:=codeI m) rfl hm wm
 have h2:=img_rdz (codeI m) L1 l1b n (ok_lim l1k hn wn) 0 ⟨by omega,r,by rw [List.drop_zero];exact h⟩
 rw [h1] at h2
 simp only [Option.some.injEq,Prod.mk.injEq] at h2
 refine ⟨h2.2,?_⟩
 have:=congrArg List.length h
 rw [List.length_append] at this
 exact List.eq_nil_of_length_eq_zero (by omega)
theorem more_true9' (v:List Int) (m:Img) (hv:codeI m=v) (ho:okImg m=true) (ha:ImgAll m) (hbv:Bytes v) (r:List Int) (hr:Bytes r):(bif (decide ((List.length r:Int) < (1:Int))) then ((claw09_alive ()).bind fun x12=>(some x12)) else (bif (decide ((List.length r:Int) > (100:Int))) then ((claw09_alive ()).bind fun x13=>(some x13)) else (bif (decide ((List.length v:Int) > (19000:Int))) then ((claw09_alive ()).bind fun x14=>(some x14)) else (bif (Nat.ble 1 1&&Nat.ble (List.length ([]:(List Int))+List.length v) lim) then (let x15:(List Int):=(List.append ([]:(List Int)) v);(bif (Nat.ble 1 1&&Nat.ble (List.length x15+List.length r) lim) then (let x16:(List Int):=(List.append x15 r);((cimage_Decode x16).bind fun x17=>(bif (x17.2==(12:Int)) then ((claw09_alive ()).bind fun x18=>(some x18)) else (some false)))) else none)) else none))))=some true:=by
 rw [alive09]
 by_cases h1:r.length < 1
 ·rw [decide_eq_true (by omega)];rfl
 rw [decide_eq_false (by omega),cond_false]
 by_cases h2:r.length > 100
 ·rw [decide_eq_true (by omega)];rfl
 rw [decide_eq_false (by omega),cond_false]
 by_cases h3:v.length > 19000
 ·rw [decide_eq_true (by omega)];rfl
 rw [decide_eq_false (by omega),cond_false,nilapp 1 rfl v (by omega),cond_true]
 show (bif (Nat.ble 1 1&&Nat.ble (List.length v+List.length r) lim) then ((cimage_Decode (v++r)).bind fun x17=>(bif (x17.2==(12:Int)) then ((some true).bind fun x18=>(some x18)) else (some false))) else none)=some true
 rw [app_ok (by show _≤68719476736;omega),cond_true,pDecodeI_eq (bytes_append hbv hr),Option.bind_some,dec_none (bytes_append hbv hr) (by rw [List.length_append];omega) fun n hn wn e=>by
  have:=(code_pre hn wn ho ha.mem (by rw [e,hv])).2
  rw [this] at h1
  exact h1 (by simp)]
 rfl
theorem first_true9 (x:Img×Img×Int×List Int) (w:WfL [ImgTy,ImgTy,(.int .i64),(.slice (.int .u8))] x):claw09_ImageFirst x=some true:=by
 obtain ⟨m,n,at_,r⟩:=x
 obtain ⟨wm,wn,wa,wr⟩:=w
 have hr:Bytes r:=wf_bytes wr
 show nlaw09_ImageFirst (m,n,at_,r)=_
 unfold nlaw09_ImageFirst
 dsimp only
 obtain ⟨g,h1,h2⟩:=rGreatI_eq m
 rw [h1,Option.bind_some]
 cases g with
 | true=>rw [cond_true,alive09];rfl
 | false=>
 rw [cond_false]
 obtain ⟨g',h1',h2'⟩:=rGreatI_eq n
 rw [h1',Option.bind_some]
 cases g' with
 | true=>rw [cond_true,alive09];rfl
 | false=>
 rw [cond_false]
 obtain ⟨ha,hB⟩:=wf_all wm (h2 rfl)
 obtain ⟨ha',hB'⟩:=wf_all wn (h2' rfl)
 replace ha:ImgAll m:=ha
 replace hB:ImgB m:=hB
 replace ha':ImgAll n:=ha'
 rw [pEncodeI_eq m ha.l,Option.bind_some,pEncodeI_eq n ha'.l,Option.bind_some,encI_err,encI_err]
 by_cases hc:chk m=0
 rotate_left
 ·rw [show (chk m != 0)=true by simp [hc],cond_true,alive09];rfl
 rw [show (chk m != 0)=false by simp [hc],cond_false]
 by_cases hc':chk n=0
 rotate_left
 ·rw [show (chk n != 0)=true by simp [hc'],cond_true,alive09];rfl
 rw [show (chk n != 0)=false by simp [hc'],cond_false]
 obtain ⟨ho,hlen⟩:=chk_ok hc
 obtain ⟨ho',hlen'⟩:=chk_ok hc'
 have hbm:=bytes_img wm ha ho
 unfold encI
 rw [if_pos hc,if_pos hc']
 dsimp only
 rw [begins_eq,Option.bind_some,sameImg m n hB,Option.bind_some]
 have hbs:begins (codeI n) (codeI m)=decide (m=n):=by
  by_cases e:m=n
  ·subst e;rw [begins_self];simp
  ·rw [decide_eq_false e,Bool.eq_false_iff]
   intro hbg
   obtain ⟨q,hq⟩:=begins_split hbg
   exact e (code_pre ho' ha'.mem ho ha.mem hq).1.symm
 rw [hbs,beq_self_eq_true,Bool.not_true,cond_false]
 have hm:=more_true9' (codeI m) m rfl ho ha hbm r hr
 by_cases p1:at_≥0
 rotate_left
 ·rw [decide_eq_false p1,cond_false]
  exact hm
 rw [decide_eq_true p1,cond_true]
 by_cases p2:at_ < (codeI m).length
 rotate_left
 ·rw [decide_eq_false p2,cond_false]
  exact hm
 rw [decide_eq_true p2,cond_true,Bool.true_and,decide_eq_true (show at_≤((codeI m).length:Int) by omega),cond_true,List.drop_zero,pDecodeI_eq (bytes_take hbm _),Option.bind_some,dec_none (bytes_take hbm _) (by rw [List.length_take];omega) fun k hk wk e=>by
  have h:=code_pre ho ha.mem hk wk (r:=(codeI m).drop at_.toNat) (by rw [e,List.take_append_drop])
  have:=congrArg List.length h.2
  rw [List.length_drop] at this
  simp at this
  omega]
 exact hm
end Go.Proofs.YtlhnlcbcikbokaaGreatDoor
