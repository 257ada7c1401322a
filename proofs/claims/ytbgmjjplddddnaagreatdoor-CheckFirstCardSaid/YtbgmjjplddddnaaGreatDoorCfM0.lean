import Derived.Test.YtbgmjjplddddnaaGreatDoorCfB
import Derived.Test.YtbgmjjplddddnaaGreatDoorBase
set_option linter.unusedVariables false
set_option linter.unusedSimpArgs false
set_option linter.unusedSectionVars false
set_option maxRecDepth 100000
namespace Go.Proofs.YtbgmjjplddddnaaGreatDoor
open Go.Lift
theorem QLO:lim=68719476736:=rfl
theorem QBZ:maxLen=9223372036854775807:=by decide
theorem QHC {n:Nat} (h:n<=maxLen):n < big:=by
 have:maxLen < big:=by decide
 omega
theorem b11:Nat.ble 1 1=true:=rfl
theorem bg {n:Nat} (h:n<=68719476736):Nat.ble n lim=true:=Nat.ble_eq_true_of_le h
def QER (acc:List Int) (x:List Int) (k:List Int->Option (List Int)):Option (List Int):=if acc.length+x.length<=68719476736 then k (acc++x) else none
theorem QP9:∀ (xs:List (List Int)) (acc:List Int),acc.length+xs.flatten.length<=68719476736->SA (fun x s k=>QER s x k) some xs acc=some (acc++xs.flatten)
 | [],acc,_=>by simp [SA]
 | x::r,acc,h=>by
  simp only [List.flatten_cons,List.length_append] at h
  show QER acc x (SA (fun x s k=>QER s x k) some r)=_
  rw [QER,if_pos (by omega),QP9 r (acc++x) (by rw [List.length_append];omega)]
  simp
theorem QGZ (xs:List (List Int)) (hx:xs.length<=maxLen) (mk:(α:Type)->Nat->α->List α) (ZG) (acc:List Int) (h:acc.length+xs.flatten.length<=68719476736) :
  FU (je mk big ZG) big (xs,(xs.length:Int),(0:Int),acc)=some (acc++xs.flatten):=by
 rw [← QP9 xs acc h]
 refine Ra (xs:=xs) (fun (s:List Int) i=>(xs,(xs.length:Int),(i:Int),s)) (fun x s k=>QER s x k) some ?_ ?_ xs.length 0 big (by omega) (QHC hx) acc
 ·intro self s
  simp [je,tY]
 ·intro self s i hi
  have h1:decide ((i:Int) < (xs.length:Int))=true:=by simp;omega
  simp only [je,tY,h1,cond_true,XU hi,Option.bind_some,V4 hi hx,QER]
  by_cases hl:s.length+(xs[i]).length<=68719476736
  ·rw [if_pos hl]
   have:Nat.ble (s.length+(xs[i]).length) lim=true:=Nat.ble_eq_true_of_le (by rw [QLO];exact hl)
   simp [this,b11]
  ·rw [if_neg hl]
   have:Nat.ble (s.length+(xs[i]).length) lim=false:=by
    cases hb:Nat.ble (s.length+(xs[i]).length) lim with
    | false=>rfl
    | true=>exact absurd (Nat.le_of_ble_eq_true hb) (by rw [QLO];exact hl)
   simp [this]
theorem QP8 (fin:Int->Option (List Int)):∀ (xs:List (List Int)) (s:Nat),s+xs.flatten.length<=68719476736->SA (fun (x:List Int) (s:Int) k=>k (IntKind.i64.wrap (s+(x.length:Int)))) fin xs (s:Int)=fin ((s+xs.flatten.length:Nat):Int)
 | [],s,_=>by simp [SA]
 | x::r,s,h=>by
  simp only [List.flatten_cons,List.length_append] at h
  simp only [SA]
  rw [wrap_i64 (by omega) (by omega)]
  have:=QP8 fin r (s+x.length) (by omega)
  rw [Int.natCast_add] at this
  rw [this]
  congr 2
  simp
  omega
theorem QES (xs:List (List Int)) (hx:xs.length<=maxLen) (h:xs.flatten.length<=68719476736):kE xs=some xs.flatten:=by
 show FU (gH (fun _=>List.replicate) big) big (xs,(0:Int),xs,(xs.length:Int),(0:Int))=some xs.flatten
 have key:=Ra (xs:=xs) (g:=gH (fun _=>List.replicate) big) (fun (s:Int) i=>(xs,s,xs,(xs.length:Int),(i:Int))) (fun (x:List Int) (s:Int) k=>k (IntKind.i64.wrap (s+(x.length:Int))))
  (fun s=>if 0<=s/\s<=68719476736 then some xs.flatten else none) ?_ ?_ xs.length 0 big (by omega) (QHC hx) 0
 ·refine key.trans ?_
  have:=QP8 (fun s=>if 0<=s/\s<=68719476736 then some xs.flatten else none) xs 0 (by omega)
  rw [List.drop_zero]
  refine this.trans ?_
  rw [if_pos (by omega)]
 ·intro self s
  have h1:decide ((xs.length:Int) < (xs.length:Int))=false:=by simp
  simp only [gH,oJ,h1,cond_false]
  have:=QGZ xs hx (fun _=>List.replicate) self [] (by simpa using h)
  by_cases hs:0<=s/\s<=68719476736
  ·rw [if_pos hs]
   simpa [hs.1,hs.2] using this
  ·rw [if_neg hs]
   by_cases h0:0<=s
   ·have:¬ s<=68719476736:=fun hh=>hs ⟨h0,hh⟩
    simp [h0,this]
   ·simp [h0]
 ·intro self s i hi
  have h1:decide ((i:Int) < (xs.length:Int))=true:=by simp;omega
  simp only [gH,oJ,h1,cond_true,XU hi,Option.bind_some,V4 hi hx]
theorem QNG (x:List Int) (h:x.length<=68719476736):kE [x]=some x:=by
 have:=QES [x] (by simp [QBZ]) (by simpa using h)
 simpa using this
theorem QNH (x y:List Int) (h:x.length+y.length<=68719476736):kE [x,y]=some (x++y):=by
 have:=QES [x,y] (by simp [QBZ]) (by simpa using h)
 simpa using this
def qU:Nat->Nat->List Int
 | 0,n=>[(n:Int)]
 | k+1,n=>if n < 128 then [(n:Int)] else ((n % 128+128:Nat):Int)::qU k (n / 128)
def vary (n:Nat):List Int:=qU 9 n
theorem QEe:∀ (k n:Nat),1<=(qU k n).length/\(qU k n).length<=k+1
 | 0,n=>by simp [qU]
 | k+1,n=>by
  simp only [qU]
  split
  ·simp
  ·have:=QEe k (n / 128)
   simp;omega
theorem ZY (n:Nat):1<=(vary n).length/\(vary n).length<=10:=QEe 9 n
theorem QWR (n:Nat):(n % 256) ||| 128=n % 128+128:=by
 have h:∀ m,m < 256->m ||| 128=m % 128+128:=by decide +kernel
 rw [h _ (Nat.mod_lt _ (by decide))]
 omega
theorem QEf:∀ (k N n last:Nat) (ds:List Int),last+k=9->ds.length=10->n < 128 ^ (k+1)->k < N->n < 18446744073709551616->FU (rO big) N ((n:Int),(last:Int),ds)=some (ds.take last++qU k n)
 | k,0,n,last,ds,_,_,_,h,_=>by omega
 | k,N+1,n,last,ds,hl,hd,hn,hN,h64=>by
  rw [Vh]
  simp only [rO,QAR]
  have hc:(decide ((0:Int)<=(last:Int))&&decide ((last:Int) < (10:Int)))=true:=by simp;omega
  have hw:IntKind.i64.wrap ((last:Int)+1)=((last+1:Nat):Int):=by rw [wrap_i64 (by omega) (by omega)];simp
  have hset:∀ x:Int,(List.set ds last x).take (last+1)=ds.take last++[x]:=by
   intro x
   exact LK ds last x (by omega)
  by_cases h:n < 128
  ·have h1:decide ((n:Int)≥(128:Int))=false:=by simp;omega
   have hv:IntKind.u8.wrap (n:Int)=(n:Int):=by rw [wrap_u8];omega
   have hc2:(decide ((0:Int)<=((last+1:Nat):Int))&&decide (((last+1:Nat):Int)<=((List.set ds last (n:Int)).length:Int)))=true:=by simp;omega
   simp only [h1,cond_false,hc,cond_true,hw,hv,Int.toNat_natCast,hc2,hset]
   rw [QNG _ (by simp;omega)]
   have:qU k n=[(n:Int)]:=by cases k <;> simp [qU,h]
   simp [this]
  ·have h1:decide ((n:Int)≥(128:Int))=true:=by simp;omega
   cases k with
   | zero=>simp at hn;omega
   | succ k=>
    have hv:bits .or .u8 (IntKind.u8.wrap (n:Int)) (128:Int)=((n % 128+128:Nat):Int):=by
     have:IntKind.u8.wrap (n:Int)=((n % 256:Nat):Int):=by rw [wrap_u8];simp
     rw [this,← QWR]
     exact XP (b:=128) rfl (Nat.mod_lt _ (by decide)) (by decide)
    simp only [h1,cond_true,hc,hw,hv,Int.toNat_natCast]
    rw [WU n 7,QEf k N (n / 2 ^ 7) (last+1) _ (by omega) (by simpa using hd) (by rw [Nat.pow_succ] at hn;omega) (by omega) (by omega),hset]
    simp [qU,h]
theorem vE (n:Nat) (h:n < 18446744073709551616):dH (n:Int)=some (vary n):=by
 have:=QEf 9 big n 0 (List.replicate 10 0) rfl (by simp) (by simp;omega) (by decide) h
 rw [List.take_zero,List.nil_append] at this
 exact this
theorem QNR (s:List Int):xA s=some (if s.length > 200000 then ([],4) else (vary s.length++s,0)):=by
 simp only [xA,QDV,QAA]
 by_cases h:s.length > 200000
 ·have h1:decide ((s.length:Int) > (200000:Int))=true:=by simp;omega
  simp [h1,h]
 ·have h1:decide ((s.length:Int) > (200000:Int))=false:=by simp;omega
  have hw:IntKind.u64.wrap (s.length:Int)=((s.length:Nat):Int):=by rw [wrap_u64];omega
  have hv:=ZY s.length
  simp only [h1,cond_false,hw,vE s.length (by omega),Option.bind_some,QNH _ _ (show (vary s.length).length+s.length<=68719476736 by omega),if_neg h]
abbrev Cur:=List Int×Int×Unit
def Valid (c:Cur):Prop:=c.1.length<=200000/\0<=c.2.1/\c.2.1<=c.1.length
instance (c:Cur):Decidable (Valid c):=by unfold Valid;infer_instance
def Fits (n w:Nat):Prop:=w=8∨n < 256 ^ w
def dbl (x:Int):Nat:=if x < 0 then (-2 * x - 1).toNat else (2 * x).toNat
def half (n:Nat):Int:=if n % 2=1 then -1 - ((n / 2:Nat):Int) else ((n / 2:Nat):Int)
theorem QEo {x:Int} (h0 : -9223372036854775808<=x) (h1:x<=9223372036854775807):dbl x < 18446744073709551616:=by
 unfold dbl
 split <;> omega
theorem or_one {m:Nat}:(2 * m) ||| 1=2 * m+1:=by
 have:=Xg (a:=1) (b:=m) (i:=1) (by decide)
 rw [Nat.or_comm,Nat.mul_comm]
 simpa [Nat.add_comm] using this
theorem QEZ (x:Int) (h0 : -9223372036854775808<=x) (h1:x<=9223372036854775807):nM x=some (vary (dbl x)):=by
 simp only [nM,QAz,xL]
 have hd:=QEo h0 h1
 by_cases h:x < 0
 ·have g:decide (x < (0:Int))=true:=decide_eq_true h
  have e0:(if IntKind.signed .i64 then (-1:Int) else IntKind.max .i64) = -1:=rfl
  have e1:IntKind.u64.wrap (-1 - x)=((-1 - x).toNat:Int):=by rw [wrap_u64];omega
  have e2:IntKind.u64.wrap ((((-1 - x).toNat:Nat):Int) * 2 ^ 1)=((2 * (-1 - x).toNat:Nat):Int):=by rw [wrap_u64];omega
  have e3:bits .or .u64 ((2 * (-1 - x).toNat:Nat):Int) (1:Int)=((dbl x:Nat):Int):=by
   have:=XP (k:=.u64) (a:=2 * (-1 - x).toNat) (b:=1) rfl (by rw [show (2:Nat) ^ IntKind.u64.bits=18446744073709551616 by decide];omega) (by decide)
   rw [show ((1:Nat):Int)=1 from rfl] at this
   rw [this,or_one]
   congr 1
   unfold dbl
   rw [if_pos h]
   omega
  simp only [g,cond_true,e0,WI x h0 h1,e1,e2,e3,vE _ hd,Option.bind_some]
 ·have g:decide (x < (0:Int))=false:=decide_eq_false h
  have e1:IntKind.u64.wrap x=(x.toNat:Int):=by rw [wrap_u64];omega
  have e2:IntKind.u64.wrap (((x.toNat:Nat):Int) * 2 ^ 1)=((dbl x:Nat):Int):=by
   rw [wrap_u64]
   unfold dbl
   rw [if_neg h]
   omega
  simp only [g,cond_false,e1,e2,vE _ hd,Option.bind_some]
def begins (a b:List Int):Bool:=decide (b.length<=a.length/\a.take b.length=b)
theorem QC5:∀ (k n:Nat),n < 128 ^ (k+1)->Bytes (qU k n)
 | 0,n,h=>by intro c hc;simp [qU] at hc;omega
 | k+1,n,h=>by
  intro c hc
  simp only [qU] at hc
  split at hc
  ·simp at hc;omega
  ·rcases List.mem_cons.1 hc with rfl | hc
   ·omega
   ·exact QC5 k (n / 128) (by rw [Nat.pow_succ] at h;omega) c hc
theorem QHq {n:Nat} (h:n < 18446744073709551616):Bytes (vary n):=QC5 9 n (by simp;omega)
theorem bytes_append {a b:List Int} (ha:Bytes a) (hb:Bytes b):Bytes (a++b):=fun c hc=>(List.mem_append.1 hc).elim (ha c) (hb c)
theorem QLk (n k:Nat):(n:Int).tmod (k:Int)=((n % k:Nat):Int):=by
 rw [Int.tmod_eq_emod_of_nonneg (by omega)];simp
theorem QLj (n k:Nat):(n:Int).tdiv (k:Int)=((n / k:Nat):Int):=by
 rw [Int.tdiv_eq_ediv_of_nonneg (by omega)];simp
theorem QAi:∀ (k N n:Nat) (b:List Int),n < 128 ^ (k+1)->k<=9->k < N->b.length+k<=100->n < 18446744073709551616->FU (fU big) N ((n:Int),b)=some (b++qU k n)
 | k,0,_,_,_,_,h,_,_=>by omega
 | k,N+1,n,b,hn,hk,hN,hb,h64=>by
  rw [Vh]
  by_cases h:n < 128
  ·have g:decide ((n:Int)≥(128:Int))=false:=decide_eq_false (by omega)
   have e1:IntKind.u8.wrap (n:Int)=(n:Int):=by rw [wrap_u8];omega
   have e4:(Nat.ble 1 1&&Nat.ble (List.length b+List.length [(n:Int)]) lim)=true:=by
    rw [b11,bg (by simp only [List.length_cons,List.length_nil];omega)];rfl
   have e5:qU k n=[(n:Int)]:=by cases k <;> simp [qU,h]
   simp only [fU,pK,g,cond_false,e1,e4,cond_true,e5]
   rfl
  ·cases k with
   | zero=>simp at hn;omega
   | succ k=>
    have g:decide ((n:Int)≥(128:Int))=true:=decide_eq_true (by omega)
    have e1:IntKind.u8.wrap ((n:Int).tmod 128)=((n % 128:Nat):Int):=by
     rw [show (128:Int)=((128:Nat):Int) from rfl,QLk,wrap_u8];omega
    have e2:IntKind.u8.wrap (((n % 128:Nat):Int)+128)=((n % 128+128:Nat):Int):=by rw [wrap_u8];omega
    have e3:IntKind.u64.wrap ((n:Int).tdiv 128)=((n / 128:Nat):Int):=by
     rw [show (128:Int)=((128:Nat):Int) from rfl,QLj,wrap_u64];omega
    have e4:(Nat.ble 1 1&&Nat.ble (List.length b+List.length [((n % 128+128:Nat):Int)]) lim)=true:=by
     rw [b11,bg (by simp only [List.length_cons,List.length_nil];omega)];rfl
    simp only [fU,pK,g,cond_true,e1,e2,e3,e4]
    rw [QAi k N (n / 128) _ (by rw [Nat.pow_succ] at hn;omega) (by omega) (by omega) (by simp only [List.append_eq,List.length_append,List.length_cons,List.length_nil];omega) (by omega)]
    simp [qU,h]
theorem j3 (n:Nat) (h:n < 18446744073709551616):Zl (n:Int)=some (vary n):=by
 have:=QAi 9 big n [] (by simp;omega) (by omega) (by decide) (by simp) h
 rw [List.nil_append] at this
 exact this
theorem QEG (x:Int) (h0 : -9223372036854775808<=x) (h1:x<=9223372036854775807):lG x=some ((dbl x:Nat):Int):=by
 simp only [lG,zi,vY,dbl]
 by_cases h:x < 0
 ·have g:decide (x≥(0:Int))=false:=decide_eq_false (by omega)
  have e1:IntKind.i64.wrap (x+1)=x+1:=wrap_i64 (by omega) (by omega)
  have e2:IntKind.i64.wrap (0 - (x+1))=0 - (x+1):=wrap_i64 (by omega) (by omega)
  have e3:IntKind.u64.wrap (0 - (x+1))=0 - (x+1):=by rw [wrap_u64];omega
  have e4:IntKind.u64.wrap ((0 - (x+1)) * 2)=(0 - (x+1)) * 2:=by rw [wrap_u64];omega
  have e5:IntKind.u64.wrap ((0 - (x+1)) * 2+1)=(0 - (x+1)) * 2+1:=by rw [wrap_u64];omega
  simp only [g,cond_false,e1,e2,e3,e4,e5,if_pos h]
  congr 1
  omega
 ·have g:decide (x≥(0:Int))=true:=decide_eq_true (by omega)
  have e1:IntKind.u64.wrap x=x:=by rw [wrap_u64];omega
  have e2:IntKind.u64.wrap (x * 2)=x * 2:=by rw [wrap_u64];omega
  simp only [g,cond_true,e1,e2,if_neg h]
  congr 1
  omega
theorem QFn (s:List Int) (h:s.length<=200000):mU s=some (vary s.length++s):=by
 simp only [mU,QBx,yX]
 have hw:IntKind.u64.wrap (s.length:Int)=((s.length:Nat):Int):=by rw [wrap_u64];omega
 have hv:=ZY s.length
 have e:(Nat.ble 1 1&&Nat.ble ((vary s.length).length+s.length) lim)=true:=by rw [b11,bg (by omega)];rfl
 simp only [hw,j3 s.length (by omega),Option.bind_some,e,cond_true]
 rfl
abbrev Ins:=Int×Int×Int×Int×Unit
theorem QGE:big=(big - 4)+4:=by decide
theorem w01:IntKind.i64.wrap ((0:Int)+1)=1:=by decide
theorem w12:IntKind.i64.wrap ((1:Int)+1)=2:=by decide
theorem w23:IntKind.i64.wrap ((2:Int)+1)=3:=by decide
theorem QD8 {α:Type} (a:α) (l:List α):Mh (a::l) 0=some a:=rfl
theorem QD9 {α:Type} (a b:α) (l:List α):Mh (a::b::l) 1=some b:=rfl
theorem QDA {α:Type} (a b c:α) (l:List α):Mh (a::b::c::l) 2=some c:=rfl
theorem bE (a b:Int):(a==b)=decide (a=b):=rfl
def QA1 (o:Int):Bool:=decide (1<=o)&&decide (o<=34)
theorem QDE (o:Int):kD o=some (QA1 o):=by
 simp only [kD,wI,pO,QA1]
 by_cases h:(1:Int)<=o <;> simp [h]
def QGh (k:Nat):List Int×List Int×Unit:=Yh.getD k ([],[],())
def j4 (o:Int):List Int:=(QGh o.toNat).2.1
def nam (o:Int):List Int:=(QGh o.toNat).1
theorem QDa {o:Int} (h:QA1 o=true):∃ k:Nat,o=(k:Int)/\1<=k/\k<=34:=by
 simp only [QA1,Bool.and_eq_true,decide_eq_true_eq] at h
 exact ⟨o.toNat,by omega,by omega,by omega⟩
theorem QNN:List.length Yh=35:=by decide +kernel
theorem QHb {o:Int} (h:QA1 o=true):Mh Yh o=some (nam o,j4 o,()):=by
 obtain ⟨k,rfl,h1,h2⟩:=QDa h
 rw [SC,getD_at (by rw [QNN];omega) ([],[],())]
 rfl
def Sm (r:Int):Prop:=0<=r/\r<=10
instance (r:Int):Decidable (Sm r):=by unfold Sm;infer_instance
def three (l:List Int):Bool:=match l with | [a,b,c]=>decide (Sm a)&&decide (Sm b)&&decide (Sm c) | _=>false
theorem QJm:((List.range 35).all fun k=>three (QGh k).2.1)=true:=by decide +kernel
theorem zM {o:Int} (h:QA1 o=true):∃ a b c,j4 o=[a,b,c]/\Sm a/\Sm b/\Sm c:=by
 obtain ⟨k,rfl,h1,h2⟩:=QDa h
 have:=List.all_eq_true.1 QJm k (List.mem_range.2 (by omega))
 unfold j4
 rw [Int.toNat_natCast]
 unfold three at this
 split at this
 ·rename_i a b c e
  simp only [Bool.and_eq_true,decide_eq_true_eq] at this
  exact ⟨a,b,c,e,this.1.1,this.1.2,this.2⟩
 ·cases this
theorem wJ {r:Int} (h:Sm r):r=0∨r=1∨r=2∨r=3∨r=4∨r=5∨r=6∨r=7∨r=8∨r=9∨r=10:=by
 unfold Sm at h;omega
def idx (n k:Int):Bool:=decide (0<=n)&&decide (n < k)
theorem xE (n k:Int):ZN (n,k)=some (idx n k):=by
 simp only [ZN,QAm,xK,idx]
 by_cases h:(0:Int)<=n <;> simp [h]
def fit (r n:Int):Bool:=
 if r=5 then true else if r=3∨r=4 then decide (n = -1)||idx n 16 else if r=1∨r=2 then idx n 16 else if r=6 then idx n 2 else if r=7∨r=9 then idx n 32 else if r=8 then idx n 8 else if r=10 then idx n 200 else decide (n=0)
theorem QFT (r n:Int) (h:Sm r):y7 (r,n)=some (fit r n):=by
 rcases wJ h with rfl | rfl | rfl | rfl | rfl | rfl | rfl | rfl | rfl | rfl | rfl <;>
  by_cases hn:n = -1 <;> simp [y7,QEV,QBe,xE,fit,bE,hn]
def sg (r:Int):Bool:=decide (r=5)||decide (r=3)||decide (r=4)
theorem QGX (r:Int):pW r=some (sg r):=by
 simp only [pW,zh,vX,sg]
 by_cases h5:r=5
 ·subst h5;rfl
 by_cases h3:r=3
 ·subst h3;rfl
 simp [h5,h3,bE]
theorem QCj {r n:Int} (hr:Sm r) (h:fit r n=true) (hs:sg r=false):0<=n/\n < 1000:=by
 rcases wJ hr with rfl | rfl | rfl | rfl | rfl | rfl | rfl | rfl | rfl | rfl | rfl <;> simp [fit,sg,idx] at h hs <;> omega
def QGQ:List Int->List Int->Bool
 | r::rs,n::ns=>fit r n&&QGQ rs ns
 | _,_=>true
def vals (x:Ins):List Int:=[x.2.1,x.2.2.1,x.2.2.2.1]
def sU (x:Ins):Bool:=QA1 x.1&&QGQ (j4 x.1) (vals x)
theorem yc (x:Ins):lF x=some (vals x):=rfl
theorem QCx (N:Nat) (ZG) {rs ns:List Int} {i r n:Int} (h0:0<=i) (h3:i < 3) (hr:Mh rs i=some r) (hn:nth ns i.toNat=some n) (hl:Sm r) :
  rJ N ZG (rs,i,ns)=if fit r n then ZG (rs,IntKind.i64.wrap (i+1),ns) else some 8:=by
 show xC ZG _=_
 unfold xC
 dsimp only
 rw [decide_eq_true h3,decide_eq_true h0,cond_true,hr]
 simp only [Option.bind_some,Bool.and_self,cond_true,hn,QFT r n hl]
 cases fit r n <;> rfl
theorem wB (x:Ins):pF x=some (if sU x then 0 else 8):=by
 show xI (FU (rJ big) big) x=_
 unfold xI
 rw [QDE,Option.bind_some,yc,Option.bind_some]
 cases h:QA1 x.1 with
 | false=>simp [sU,h]
 | true=>
  obtain ⟨a,b,c,e,ha,hb,hc⟩:=zM h
  rw [QHb h]
  simp only [Option.bind_some,Bool.not_true,cond_false,e]
  rw [QGE,Vh,QCx _ _ (by decide) (by decide) (QD8 _ _) rfl ha,w01]
  simp only [sU,h,e,QGQ,vals,Bool.true_and,Bool.and_true]
  cases fit a x.2.1 with
  | false=>rfl
  | true=>
   rw [if_pos rfl,Vh,QCx _ _ (by decide) (by decide) (QD9 _ _ _) rfl hb,w12]
   cases fit b x.2.2.1 with
   | false=>rfl
   | true=>
    rw [if_pos rfl,Vh,QCx _ _ (by decide) (by decide) (QDA _ _ _ _) rfl hc,w23]
    cases fit c x.2.2.2.1 with
    | false=>rfl
    | true=>rfl
def raw (r n:Int):Nat:=if sg r then dbl n else n.toNat
def seg (r n:Int):List Int:=if r=0 then [] else vary (raw r n)
def body:List Int->List Int->List Int
 | r::rs,n::ns=>seg r n++body rs ns
 | _,_=>[]
def enc (x:Ins):List Int:=x.1::body (j4 x.1) (vals x)
def I64 (n:Int):Prop:=-9223372036854775808<=n/\n<=9223372036854775807
theorem QBD (r n:Int):(seg r n).length<=10:=by
 unfold seg
 split
 ·simp
 ·exact (ZY _).2
theorem QD4 (N:Nat) (ZG) {rs acc ns:List Int} {i r n:Int} (h0:0<=i) (h3:i < 3) (hr:Mh rs i=some r) (hn:nth ns i.toNat=some n) (hl:Sm r) (hf:fit r n=true) (h64:I64 n) (ha:acc.length<=100) :
  p8 N ZG (rs,i,acc,ns)=ZG (rs,IntKind.i64.wrap (i+1),acc++seg r n,ns):=by
 show vQ ZG _=_
 unfold vQ
 dsimp only
 rw [decide_eq_true h3,decide_eq_true h0,cond_true,hr]
 simp only [Option.bind_some,Bool.and_self,cond_true,hn,QGX]
 by_cases hr0:r=0
 ·subst hr0
  simp [seg]
 ·have e:(r != 0)=true:=by simpa using hr0
  rw [e,cond_true,seg,if_neg hr0,raw]
  cases hs:sg r with
  | true=>
   have l:=ZY (dbl n)
   simp only [cond_true,if_true]
   rw [QEZ n h64.1 h64.2,Option.bind_some,b11,bg (by omega)]
   rfl
  | false=>
   obtain ⟨l0,l1⟩:=QCj hl hf hs
   obtain ⟨m,rfl⟩:=Int.eq_ofNat_of_zero_le l0
   have l:=ZY m
   have e1:IntKind.u64.wrap (m:Int)=(m:Int):=by rw [wrap_u64];omega
   simp only [cond_false]
   rw [e1,vE m (by omega),Option.bind_some,b11,bg (by omega)]
   rfl
def WfI (x:Ins):Prop:=I64 x.2.1/\I64 x.2.2.1/\I64 x.2.2.2.1
theorem kV {x:Ins} (h:sU x=true):∃ a b c,QA1 x.1=true/\j4 x.1=[a,b,c]/\Sm a/\Sm b/\Sm c/\fit a x.2.1=true/\fit b x.2.2.1=true/\fit c x.2.2.2.1=true:=by
 simp only [sU,Bool.and_eq_true] at h
 obtain ⟨a,b,c,e,ha,hb,hc⟩:=zM h.1
 have h2:=h.2
 simp only [e,vals,QGQ,Bool.and_eq_true,Bool.and_true] at h2
 exact ⟨a,b,c,h.1,e,ha,hb,hc,h2.1,h2.2.1,h2.2.2⟩
theorem QJ4 (x:Ins) (w:WfI x):yH x=some (if sU x then (enc x,0) else ([],8)):=by
 show uq (FU (p8 big) big) x=_
 unfold uq
 rw [wB,Option.bind_some,yc,Option.bind_some]
 cases h:sU x with
 | false=>rfl
 | true=>
  obtain ⟨a,b,c,ho,e,ha,hb,hc,fa,fb,fc⟩:=kV h
  rw [QHb ho]
  simp only [Option.bind_some,if_true,e]
  have l1:=QBD a x.2.1
  have l2:=QBD b x.2.2.1
  show (bif (0:Int) != 0 then _ else _)=_
  rw [show ((0:Int) != 0)=false from rfl,cond_false]
  rw [QGE,Vh,QD4 _ _ (by decide) (by decide) (QD8 _ _) rfl ha fa w.1 (by simp),w01]
  rw [Vh,QD4 _ _ (by decide) (by decide) (QD9 _ _ _) rfl hb fb w.2.1 (by simp only [List.length_append,List.length_cons,List.length_nil];omega),w12]
  rw [Vh,QD4 _ _ (by decide) (by decide) (QDA _ _ _ _) rfl hc fc w.2.2 (by simp only [List.length_append,List.length_cons,List.length_nil];omega),w23]
  show some (_,(0:Int))=_
  simp [enc,e,vals,body]
def rs1 (r n:Int):List Int:=if (r=1∨r=3)/\n≠-1 then [n] else []
def ws1 (r n:Int):List Int:=if (r=2∨r=4)/\n≠-1 then [n] else []
def rsL:List Int->List Int->List Int
 | r::rs,n::ns=>rs1 r n++rsL rs ns
 | _,_=>[]
def wsL:List Int->List Int->List Int
 | r::rs,n::ns=>ws1 r n++wsL rs ns
 | _,_=>[]
theorem QBB (r n:Int):(rs1 r n).length+(ws1 r n).length<=1:=by
 unfold rs1 ws1
 split <;> split <;> simp <;> omega
theorem QAC (N:Nat) (ZG) {rs R W ns:List Int} {i r n:Int} (h0:0<=i) (h3:i < 3) (hr:Mh rs i=some r) (hn:nth ns i.toNat=some n) (hl:Sm r) (hR:R.length<=100) (hW:W.length<=100) :
  rM N ZG (rs,i,R,W,ns)=ZG (rs,IntKind.i64.wrap (i+1),R++rs1 r n,W++ws1 r n,ns):=by
 show xD ZG _=_
 unfold xD
 dsimp only
 rw [decide_eq_true h3,decide_eq_true h0,cond_true,hr]
 have c1:(Nat.ble 1 1&&Nat.ble (R.length+List.length ([n]:List Int)) lim)=true:=by rw [b11,bg (by simp;omega)];rfl
 have c2:(Nat.ble 1 1&&Nat.ble (W.length+List.length ([n]:List Int)) lim)=true:=by rw [b11,bg (by simp;omega)];rfl
 simp only [Option.bind_some,Bool.and_self,cond_true,hn,c1,c2]
 rcases wJ hl with rfl | rfl | rfl | rfl | rfl | rfl | rfl | rfl | rfl | rfl | rfl <;> by_cases hn1:n = -1 <;> simp [rs1,ws1,hn1,bE]
theorem QFz (x:Ins):pG x=some (if sU x then (rsL (j4 x.1) (vals x),wsL (j4 x.1) (vals x),0) else ([],[],8)):=by
 show xJ (FU (rM big) big) x=_
 unfold xJ
 rw [wB,Option.bind_some,yc,Option.bind_some]
 cases h:sU x with
 | false=>rfl
 | true=>
  obtain ⟨a,b,c,ho,e,ha,hb,hc,fa,fb,fc⟩:=kV h
  rw [QHb ho]
  simp only [Option.bind_some,if_true,e]
  have l1:=QBB a x.2.1
  have l2:=QBB b x.2.2.1
  show (bif (0:Int) != 0 then _ else _)=_
  rw [show ((0:Int) != 0)=false from rfl,cond_false]
  rw [QGE,Vh,QAC _ _ (by decide) (by decide) (QD8 _ _) rfl ha (by simp) (by simp),w01]
  rw [Vh,QAC _ _ (by decide) (by decide) (QD9 _ _ _) rfl hb (by simp only [List.length_append,List.length_nil];omega) (by simp only [List.length_append,List.length_nil];omega),w12]
  rw [Vh,QAC _ _ (by decide) (by decide) (QDA _ _ _ _) rfl hc (by simp only [List.length_append,List.length_nil];omega) (by simp only [List.length_append,List.length_nil];omega),w23]
  show some (_,_,(0:Int))=_
  simp [vals,rsL,wsL]
def vl (r:Int) (n:Nat):Int:=if sg r then half n else if n<=9223372036854775807 then (n:Int) else 9223372036854775807
def ltr (r:Int):Int:=([45,114,119,101,103,110,98,116,102,99,105]:List Int).getD r.toNat 0
theorem QJg:((List.range 256).all fun k=>decide (nL (k:Int)=some (if QA1 k then (j4 k).map ltr else [])))=true:=by decide +kernel
theorem QFy {o:Int} (h0:0<=o) (h1:o<=255):nL o=some (if QA1 o then (j4 o).map ltr else []):=by
 obtain ⟨k,rfl⟩:=Int.eq_ofNat_of_zero_le h0
 simpa using List.all_eq_true.1 QJg k (List.mem_range.2 (by omega))
theorem QLX (r n:Int) (h:Sm r):uP (ltr r,n)=some (fit r n):=by
 rcases wJ h with rfl | rfl | rfl | rfl | rfl | rfl | rfl | rfl | rfl | rfl | rfl <;>
  simp [uP,QBz,yY,ltr,fit,idx,bE]
 ·by_cases h0:0<=n <;> simp [h0]
 ·by_cases h0:0<=n <;> simp [h0]
 ·by_cases h0:n = -1
  ·simp [h0]
  ·by_cases h1:0<=n
   ·simp [h0,h1,show -1<=n by omega]
   ·simp [h0,h1,show ¬ -1<=n by omega]
 ·by_cases h0:n = -1
  ·simp [h0]
  ·by_cases h1:0<=n
   ·simp [h0,h1,show -1<=n by omega]
   ·simp [h0,h1,show ¬ -1<=n by omega]
 ·by_cases h0:0<=n <;> simp [h0]
 ·by_cases h0:0<=n <;> simp [h0]
 ·by_cases h0:0<=n <;> simp [h0]
 ·by_cases h0:0<=n <;> simp [h0]
 ·by_cases h0:0<=n <;> simp [h0]
theorem QHi (r:Int) (h:Sm r):vN (ltr r)=some (sg r):=by
 rcases wJ h with rfl | rfl | rfl | rfl | rfl | rfl | rfl | rfl | rfl | rfl | rfl <;> rfl
theorem QVY (r:Int) (h:Sm r):(ltr r==(45:Int))=decide (r=0):=by
 rcases wJ h with rfl | rfl | rfl | rfl | rfl | rfl | rfl | rfl | rfl | rfl | rfl <;> rfl
def q (r:Int) (n:Nat):Int:=if sg r then half n else ((n % 1000:Nat):Int)
def qf (r:Int) (n:Nat):Bool:=(sg r||decide (n < 1000))&&fit r (q r n)
theorem vq {r:Int} {n:Nat} (hr:Sm r) (hn:n < 18446744073709551616):fit r (vl r n)=qf r n/\(qf r n=true->vl r n=q r n):=by
 unfold vl qf q
 cases hs:sg r with
 | true=>simp
 | false=>
  simp only [Bool.false_or,Bool.false_eq_true,if_false]
  by_cases h:n < 1000
  ·have e:n % 1000=n:=by omega
   simp only [h,decide_true,Bool.true_and,e,if_pos (show n<=9223372036854775807 by omega),and_self,implies_true]
  ·simp only [h,decide_false,Bool.false_and,Bool.false_eq_true,false_implies,and_true]
   cases hf:fit r (if n<=9223372036854775807 then (n:Int) else 9223372036854775807) with
   | false=>rfl
   | true=>
    have:=QCj hr hf hs
    split at this <;> omega
theorem QR8 {r n:Int} (hr:Sm r) (hf:fit r n=true) (h64:I64 n):raw r n < 18446744073709551616:=by
 unfold raw
 cases hs:sg r with
 | true=>simpa using QEo h64.1 h64.2
 | false=>
  have:=QCj hr hf hs
  simp only [Bool.false_eq_true,if_false]
  omega
theorem QLa {o:Int} (h:QA1 o=true):(j4 o).length=3/\∀ x∈j4 o,Sm x:=by
 obtain ⟨p,q',r,e3,hp,hq,hr⟩:=zM h
 rw [e3]
 refine ⟨rfl,?_⟩
 intro x hx
 simp at hx
 rcases hx with rfl | rfl | rfl <;> assumption
theorem QJW {x:Ins} (h:sU x=true) (w:WfI x):QA1 x.1=true/\(j4 x.1).length=(vals x).length/\(∀ r∈j4 x.1,Sm r)/\(∀ n∈vals x,I64 n)/\QGQ (j4 x.1) (vals x)=true:=by
 simp only [sU,Bool.and_eq_true] at h
 obtain ⟨h1,h2⟩:=QLa h.1
 refine ⟨h.1,by rw [h1];rfl,h2,?_,h.2⟩
 intro n hn
 simp only [vals,List.mem_cons,List.not_mem_nil,or_false] at hn
 rcases hn with rfl | rfl | rfl
 ·exact w.1
 ·exact w.2.1
 ·exact w.2.2
theorem QCu:∀ (rs ns:List Int),rs.length=ns.length->(∀ r∈rs,Sm r)->(∀ n∈ns,I64 n)->QGQ rs ns=true->Bytes (body rs ns)/\(body rs ns).length<=10 * rs.length
 | [],[],_,_,_,_=>by simp [body,Bytes]
 | r::rs,n::ns,hl,hr,hn,hf=>by
  simp only [QGQ,Bool.and_eq_true] at hf
  obtain ⟨h1,h2⟩:=QCu rs ns (by simpa using hl) (fun x hx=>hr x (by simp [hx])) (fun x hx=>hn x (by simp [hx])) hf.2
  have hs:=QBD r n
  simp only [body]
  refine ⟨bytes_append ?_ h1,by simp only [List.length_append,List.length_cons];omega⟩
  unfold seg
  split
  ·simp [Bytes]
  ·exact QHq (QR8 (hr r (by simp)) hf.1 (hn n (by simp)))
 | [],_::_,hl,_,_,_=>by simp at hl
 | _::_,[],hl,_,_,_=>by simp at hl
theorem QJO {x:Ins} (h:sU x=true) (w:WfI x):Bytes (enc x)/\(enc x).length<=31:=by
 obtain ⟨h1,h2,h3,h4,h5⟩:=QJW h w
 obtain ⟨g1,g2⟩:=QCu _ _ h2 h3 h4 h5
 obtain ⟨k,hk,_,_⟩:=QDa h1
 refine ⟨?_,?_⟩
 ·intro c hc
  rcases List.mem_cons.1 hc with rfl | hc
  ·omega
  ·exact g1 c hc
 ·have:(j4 x.1).length=3:=(QLa h1).1
  simp only [enc,List.length_cons]
  omega
theorem QFl {r n v:Int} (h:v∈rs1 r n):v=n/\(r=1∨r=3)/\n≠-1:=by
 unfold rs1 at h
 split at h
 ·rename_i g;simp at h;exact ⟨h,g⟩
 ·simp at h
theorem QFr {r n v:Int} (h:v∈ws1 r n):v=n/\(r=2∨r=4)/\n≠-1:=by
 unfold ws1 at h
 split at h
 ·rename_i g;simp at h;exact ⟨h,g⟩
 ·simp at h
theorem mO {r n:Int} (h:fit r n=true) (hr:r=1∨r=3∨r=2∨r=4) (hn:n≠-1):0<=n/\n<=15:=by
 rcases hr with rfl | rfl | rfl | rfl <;> simp [fit,idx,hn] at h <;> omega
theorem QNT:((List.range 35).all fun k=>match (QGh k).2.1 with | [a,b,c]=>!((a==2||a==4)&&(b==2||b==4)&&(c==2||c==4)) | _=>true)=true:=by decide +kernel
theorem QJi {x:Ins} (h:sU x=true):(rsL (j4 x.1) (vals x)).length+(wsL (j4 x.1) (vals x)).length<=3/\(wsL (j4 x.1) (vals x)).length<=2/\
  ∀ v∈rsL (j4 x.1) (vals x)++wsL (j4 x.1) (vals x),0<=v/\v<=15/\(v=x.2.1∨v=x.2.2.1∨v=x.2.2.2.1):=by
 obtain ⟨a,b,c,ho,e,ha,hb,hc,fa,fb,fc⟩:=kV h
 have l1:=QBB a x.2.1
 have l2:=QBB b x.2.2.1
 have l3:=QBB c x.2.2.2.1
 refine ⟨?_,?_,?_⟩
 ·simp only [e,vals,rsL,wsL,List.append_nil,List.length_append]
  omega
 ·simp only [e,vals,rsL,wsL,List.append_nil,List.length_append]
  obtain ⟨k,hk,h1,h2⟩:=QDa ho
  have h3:=List.all_eq_true.1 QNT k (List.mem_range.2 (by omega))
  have e':(QGh k).2.1=[a,b,c]:=by rw [← e,hk];rfl
  rw [e'] at h3
  have hz:∀ r n:Int,¬ (r=2∨r=4)->(ws1 r n).length=0:=fun r n h=>by unfold ws1;rw [if_neg (fun g=>h g.1)];rfl
  have q1:(ws1 a x.2.1).length<=1:=by omega
  have q2:(ws1 b x.2.2.1).length<=1:=by omega
  have q3:(ws1 c x.2.2.2.1).length<=1:=by omega
  by_cases g1:a=2∨a=4
  ·by_cases g2:b=2∨b=4
   ·by_cases g3:c=2∨c=4
    ·exfalso
     have:(a==2||a==4)=true:=by simpa [bE] using g1
     have t2:(b==2||b==4)=true:=by simpa [bE] using g2
     have t3:(c==2||c==4)=true:=by simpa [bE] using g3
     simp [this,t2,t3] at h3
    ·have:=hz c x.2.2.2.1 g3;omega
   ·have:=hz b x.2.2.1 g2;omega
  ·have:=hz a x.2.1 g1;omega
 ·intro v hv
  simp only [e,vals,rsL,wsL,List.append_nil,List.mem_append] at hv
  rcases hv with (hv | hv | hv) | hv | hv | hv
  ·obtain ⟨rfl,h1,h2⟩:=QFl hv
   have:=mO fa (by omega) h2
   exact ⟨this.1,this.2,.inl rfl⟩
  ·obtain ⟨rfl,h1,h2⟩:=QFl hv
   have:=mO fb (by omega) h2
   exact ⟨this.1,this.2,.inr (.inl rfl)⟩
  ·obtain ⟨rfl,h1,h2⟩:=QFl hv
   have:=mO fc (by omega) h2
   exact ⟨this.1,this.2,.inr (.inr rfl)⟩
  ·obtain ⟨rfl,h1,h2⟩:=QFr hv
   have:=mO fa (by omega) h2
   exact ⟨this.1,this.2,.inl rfl⟩
  ·obtain ⟨rfl,h1,h2⟩:=QFr hv
   have:=mO fb (by omega) h2
   exact ⟨this.1,this.2,.inr (.inl rfl)⟩
  ·obtain ⟨rfl,h1,h2⟩:=QFr hv
   have:=mO fc (by omega) h2
   exact ⟨this.1,this.2,.inr (.inr rfl)⟩
end Go.Proofs.YtbgmjjplddddnaaGreatDoor
