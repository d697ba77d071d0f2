package shipped

// The rule texts. They are constants: a table of them would be too great.
const (
	graphemeText = `CR ! LF
CR|LF|Newline|Control|Gap /
/ CR|LF|Newline|Control|Gap
L ! L|V|LV|LVT
LV|V ! V|T
LVT|T ! T
! Extend|ZWJ|Spacing|Format
Prepend !
Pict Extend* ZWJ ! Pict
^ (Regional Regional)* Regional ! Regional
~Regional (Regional Regional)* Regional ! Regional
`

	wordText = `ignore Extend Format
keep CR LF Newline
let letter = Upper|Lower|Letter
let mid = MidLetter|Dot|Apostrophe
let num = MidNum|Dot|Apostrophe
let part = letter|Digit|Katakana
CR ! LF
CR|LF|Newline /
/ CR|LF|Newline
ZWJ ! Pict
! ZWJ
Space ! Space
letter ! letter
letter ! mid letter
letter mid ! letter
Digit ! Digit
letter ! Digit
Digit ! letter
Digit num ! Digit
Digit ! num Digit
Katakana ! Katakana
part|Joiner ! Joiner
Joiner ! part
^ (Regional Regional)* Regional ! Regional
~Regional (Regional Regional)* Regional ! Regional
`

	sentenceText = `ignore Extend ZWJ Format
keep CR LF Newline
let close = Close|Quote|Apostrophe
let end = Term|Dot
let par = CR|LF|Newline
CR ! LF
par /
Dot ! Digit
(Upper|Lower) Dot ! Upper
Dot close* Space* ! Lower
end close* Space* ! MidNum|MidLetter|Hyphen|end
end close* ! close|Space|par
end close* Space* ! Space|par
end close* Space* /
!
`

	lineText = `ignore Extend ZWJ Format
keep CR LF Newline Space Gap
let al = Other|Upper|Lower|Letter|Digit|Joiner|Prepend
let par = CR|LF|Newline
CR ! LF
par /
! par
! Space|Gap
Gap Space* /
! Glue
Glue !
! Close|Term|MidNum|MidLetter|Dot
Open Space* !
! Quote|Apostrophe
Quote|Apostrophe !
Space /
! Hyphen
Hyphen ! Digit
al ! al
al ! Open
Close ! al
(MidNum|Dot|MidLetter) ! Digit
L ! L|V|LV|LVT
LV|V ! V|T
LVT|T ! T
Katakana ! Katakana
^ (Regional Regional)* Regional ! Regional
~Regional (Regional Regional)* Regional ! Regional
/
`
)
